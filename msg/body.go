package msg

import (
	"tidemark/api"
	"tidemark/valid"
	"tidemark/wire"
)

// body is what a message has by its kind: all but the kind itself and the two nodes. Each kind has a body of its own.
type body interface {
	valid() bool      // may it be?
	put(e *wire.Enc)  // adds its part of the payload
	take(d *wire.Dec) // undoes put; what d could not give is zero
}

type (
	read struct {
		op    uint32
		at    api.Stamp
		reads []api.Span
	}
	data struct {
		op     uint32
		at     api.Stamp
		status api.Errno
		pairs  []api.Pair
	}
	prepare struct {
		transaction
		at     api.Stamp
		reads  []api.Span
		writes []api.Write
	}
	vote struct {
		transaction
		status api.Errno
		at     api.Stamp
	}
	commit struct {
		transaction
		at api.Stamp
	}
	done   struct{ verdict }
	decide struct{ verdict }
	query  struct{ transaction }
	tell   struct{ verdict }
)

// newBody makes the body of a message's kind, with the fields that the kind names. It answers false if there is no such kind.
func newBody(m api.Msg) (body, bool) {
	makers := [...]func(api.Msg) body{
		api.MsgRead: func(m api.Msg) body { return &read{m.Op, m.At, m.Reads} },
		api.MsgData: func(m api.Msg) body { return &data{m.Op, m.At, m.Status, m.Pairs} },
		api.MsgPrepare: func(m api.Msg) body {
			return &prepare{transactionOf(m), m.At, m.Reads, m.Writes}
		},
		api.MsgVote:   func(m api.Msg) body { return &vote{transactionOf(m), m.Status, m.At} },
		api.MsgCommit: func(m api.Msg) body { return &commit{transactionOf(m), m.At} },
		api.MsgDone:   func(m api.Msg) body { return &done{verdictOf(m)} },
		api.MsgDecide: func(m api.Msg) body { return &decide{verdictOf(m)} },
		api.MsgQuery:  func(m api.Msg) body { return &query{transactionOf(m)} },
		api.MsgTell:   func(m api.Msg) body { return &tell{verdictOf(m)} },
	}
	if m.Kind < api.MsgRead || m.Kind > api.MsgTell {
		return nil, false
	}
	return makers[m.Kind](m), true
}

// message turns a body back into the message that has it.
func message(from, to uint32, b body) api.Msg {
	m := api.Msg{From: from, To: to}
	switch b := b.(type) {
	case *read:
		m.Kind, m.Op, m.At, m.Reads = api.MsgRead, b.op, b.at, b.reads
	case *data:
		m.Kind, m.Op, m.At, m.Status, m.Pairs = api.MsgData, b.op, b.at, b.status, b.pairs
	case *prepare:
		m.Kind, m.Txn, m.Home, m.At, m.Reads, m.Writes = api.MsgPrepare, b.txn, b.home, b.at, b.reads, b.writes
	case *vote:
		m.Kind, m.Txn, m.Home, m.Status, m.At = api.MsgVote, b.txn, b.home, b.status, b.at
	case *commit:
		m.Kind, m.Txn, m.Home, m.At = api.MsgCommit, b.txn, b.home, b.at
	case *done:
		m.Kind, m.Txn, m.Home, m.Outcome, m.At = api.MsgDone, b.txn, b.home, b.outcome, b.at
	case *decide:
		m.Kind, m.Txn, m.Home, m.Outcome, m.At = api.MsgDecide, b.txn, b.home, b.outcome, b.at
	case *query:
		m.Kind, m.Txn, m.Home = api.MsgQuery, b.txn, b.home
	case *tell:
		m.Kind, m.Txn, m.Home, m.Outcome, m.At = api.MsgTell, b.txn, b.home, b.outcome, b.at
	}
	return m
}

func (b *read) valid() bool { return len(b.reads) == 1 && valid.Reads(b.reads) }

func (b *read) put(e *wire.Enc) {
	putNumber(e, b.op)
	e.Stamp(b.at)
	putSpan(e, b.reads[0])
}

func (b *read) take(d *wire.Dec) {
	b.op, b.at = takeNumber(d), d.Stamp()
	b.reads = []api.Span{takeSpan(d)}
}

func (b *data) valid() bool {
	if b.status != api.OK && len(b.pairs) > 0 {
		return false
	}
	return dataStatus(b.status) && valid.Pairs(b.pairs)
}

func (b *data) put(e *wire.Enc) {
	putNumber(e, b.op)
	e.Stamp(b.at)
	putStatus(e, b.status)
	putList(e, b.pairs, putPair)
}

func (b *data) take(d *wire.Dec) {
	b.op, b.at, b.status = takeNumber(d), d.Stamp(), takeStatus(d)
	b.pairs = takeList(d, api.MaxPairs, takePair)
}

func (b *prepare) valid() bool {
	if len(b.reads) == 0 && len(b.writes) == 0 {
		return false
	}
	return b.transaction.valid() && valid.Reads(b.reads) && valid.Writes(b.writes)
}

func (b *prepare) put(e *wire.Enc) {
	b.transaction.put(e)
	e.Stamp(b.at)
	putList(e, b.reads, putSpan)
	putList(e, b.writes, putWrite)
}

func (b *prepare) take(d *wire.Dec) {
	b.transaction.take(d)
	b.at = d.Stamp()
	b.reads = takeList(d, api.MaxReads, takeSpan)
	b.writes = takeList(d, api.MaxWrites, takeWrite)
}

func (b *vote) valid() bool {
	if b.status != api.OK && b.at != (api.Stamp{}) {
		return false
	}
	return b.transaction.valid() && voteStatus(b.status)
}

func (b *vote) put(e *wire.Enc) {
	b.transaction.put(e)
	putStatus(e, b.status)
	e.Stamp(b.at)
}

func (b *vote) take(d *wire.Dec) {
	b.transaction.take(d)
	b.status, b.at = takeStatus(d), d.Stamp()
}

func (b *commit) put(e *wire.Enc) {
	b.transaction.put(e)
	e.Stamp(b.at)
}

func (b *commit) take(d *wire.Dec) {
	b.transaction.take(d)
	b.at = d.Stamp()
}
