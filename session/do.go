package session

import (
	"math"

	"tidemark/api"
	"tidemark/route"
	"tidemark/token"
	"tidemark/valid"
)

// Do asks an operation: the messages that go out, and the answer if it is there at once (P16.2).
func (s *Session) Do(op api.Op) ([]api.Msg, []api.Answer) {
	if e := s.refusal(op); e != api.OK {
		return nil, s.atOnce(op, e)
	}
	switch op.Kind {
	case api.OpBegin:
		return nil, s.atOnce(op, s.begin(op))
	case api.OpGet, api.OpScan:
		return s.read(op)
	case api.OpPut, api.OpDelete: // P16.5
		w := api.Write{Key: op.Key, Delete: op.Kind == api.OpDelete, Value: op.Value}
		return nil, s.atOnce(op, s.open.write(w))
	case api.OpCommit:
		return s.commit(op)
	default: // OpAbort (P16.6): nothing of the transaction is known outside
		return nil, s.end(s.answer(op, api.OK))
	}
}

// refusal tells why an operation cannot be asked now, whatever it would find.
func (s *Session) refusal(op api.Op) api.Errno {
	switch {
	case s.errand.awaits != nothing:
		return api.ErrWait
	case !mayBe(op):
		return api.ErrArg
	case op.Kind == api.OpBegin && s.open != nil:
		return api.ErrOpen
	case op.Kind != api.OpBegin && s.open == nil:
		return api.ErrNone
	}
	return api.OK
}

// mayBe tells whether an operation is valid: the fields that its kind names as they must be, all others zero.
func mayBe(op api.Op) bool {
	switch op.Kind {
	case api.OpBegin:
		return (!op.AsOf || op.ReadOnly && op.Token != "") &&
			op == api.Op{Kind: op.Kind, ReadOnly: op.ReadOnly, AsOf: op.AsOf, Token: op.Token}
	case api.OpGet, api.OpDelete:
		return valid.Key(op.Key) && op == api.Op{Kind: op.Kind, Key: op.Key}
	case api.OpScan:
		return valid.Span(spanOf(op)) && op.Limit >= 0 &&
			op == api.Op{Kind: op.Kind, Key: op.Key, Hi: op.Hi, Limit: op.Limit, Back: op.Back}
	case api.OpPut:
		return valid.Key(op.Key) && valid.Value(op.Value) && op == api.Op{Kind: op.Kind, Key: op.Key, Value: op.Value}
	case api.OpCommit, api.OpAbort:
		return op == api.Op{Kind: op.Kind}
	}
	return false
}

// spanOf gives a read's span.
func spanOf(op api.Op) api.Span {
	if op.Kind == api.OpGet {
		return api.Span{Lo: op.Key, Hi: op.Key + "\x00"}
	}
	return api.Span{Lo: op.Key, Hi: op.Hi}
}

// begin opens a transaction (P16.3).
func (s *Session) begin(op api.Op) api.Errno {
	start, e := s.startStamp(op)
	if e != api.OK {
		return e
	}
	s.txns++
	s.open = &transaction{
		id:       api.Txn{Client: s.node, Seq: s.txns},
		start:    start,
		readOnly: op.ReadOnly,
		writes:   map[string]api.Write{},
	}
	return api.OK
}

// startStamp gives the stamp at which a transaction is to begin: the token's own, or one that is above it.
func (s *Session) startStamp(op api.Op) (api.Stamp, api.Errno) {
	var seen api.Stamp // without a token the zero stamp: to observe it changes nothing
	if op.Token != "" {
		var e api.Errno
		if seen, e = token.Decode(op.Token); e != api.OK {
			return api.Stamp{}, e
		}
	}
	if s.txns == math.MaxUint32 {
		return api.Stamp{}, api.ErrExhausted
	}
	if e := s.clock.Observe(seen); e != api.OK {
		return api.Stamp{}, e
	}
	if op.AsOf {
		return seen, api.OK
	}
	return s.clock.Tick()
}

// read asks all shards that have a part of a read's span (P16.4).
func (s *Session) read(op api.Op) ([]api.Msg, []api.Answer) {
	span := spanOf(op)
	if !s.open.mayRead(span) {
		return nil, s.atOnce(op, api.ErrMany)
	}
	if s.requests == math.MaxUint32 {
		return nil, s.atOnce(op, api.ErrExhausted)
	}
	s.requests++
	s.errand = errand{op: op, awaits: theParts, asked: map[uint32]api.Msg{}, parts: map[uint32][]api.Pair{}}
	for _, p := range route.Cut(s.config, span) {
		s.ask(p.Shard, api.Msg{Kind: api.MsgRead, Op: s.requests, At: s.open.start, Reads: []api.Span{p.Span}})
	}
	return s.Tick(), nil
}

// commit asks all participants to prepare; without writes there are none (P16.7).
func (s *Session) commit(op api.Op) ([]api.Msg, []api.Answer) {
	writes := s.open.written(api.Span{})
	if len(writes) == 0 {
		return nil, s.commitDone(op, s.open.start)
	}
	home, _ := route.Home(s.config, writes)
	s.errand = errand{op: op, awaits: theVotes, asked: map[uint32]api.Msg{}, votes: map[uint32]api.Stamp{}}
	for _, p := range route.Shares(s.config, s.open.reads, writes) {
		s.ask(p.Shard, api.Msg{Kind: api.MsgPrepare, Txn: s.open.id, Home: home, At: s.open.start, Reads: p.Reads, Writes: p.Writes})
	}
	return s.Tick(), nil
}

// ask keeps a message to a shard till it is answered.
func (s *Session) ask(shard uint32, m api.Msg) {
	m.From, m.To = s.node, shard
	s.errand.asked[shard] = m
}
