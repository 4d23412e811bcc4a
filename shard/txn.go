package shard

import (
	"tidemark/api"
	"tidemark/stamp"
	"tidemark/valid"
)

// prepare takes a Prepare (P14.7).
func (s *Shard) prepare(m api.Msg) {
	if known, there := s.state.Outcome(m.Txn); there {
		if known.Outcome == api.Aborted {
			s.vote(m, api.ErrAborted, api.Stamp{})
		}
		return
	}
	if held, there := s.state.Get(m.Txn); there {
		if held.Home == m.Home {
			s.vote(m, api.OK, held.At)
		}
		return
	}
	if e := s.state.Check(m.Txn, m.At, m.Reads, m.Writes); e != api.OK {
		s.vote(m, e, api.Stamp{})
		return
	}
	s.hold(m)
}

// hold prepares a transaction against which nothing stands, if the clock has a stamp for it.
func (s *Shard) hold(m api.Msg) {
	s.clock.Observe(m.At)
	at, e := s.clock.Tick()
	if e != api.OK {
		s.vote(m, e, api.Stamp{})
		return
	}
	s.reserve(at)
	s.enter(api.Record{Kind: api.RecPrepare, Txn: m.Txn, Home: m.Home, At: at, Reads: m.Reads, Writes: m.Writes})
	s.vote(m, api.OK, at)
}

// commit takes a Commit (P14.8).
func (s *Shard) commit(m api.Msg) {
	if m.Home != s.node {
		return
	}
	if known, there := s.state.Outcome(m.Txn); there {
		s.post(outcome(api.MsgDone, m, known.Outcome, known.At))
		return
	}
	if s.mayCommit(m) {
		s.commitAt(m, outcome(api.MsgDone, m, api.Committed, m.At))
	}
}

// learn takes a Decide or a Tell (P14.9).
func (s *Shard) learn(m api.Msg) {
	if _, known := s.state.Outcome(m.Txn); known || s.heldForAnother(m) {
		return
	}
	if m.Outcome == api.Aborted {
		s.abort(m.Txn, m.Home)
		return
	}
	if m.Home != s.node && s.mayCommit(m) { // a home commits by Commit alone
		s.commitAt(m)
	}
}

// query takes a Query (P14.10).
func (s *Shard) query(m api.Msg) {
	if m.Home != s.node {
		return
	}
	if known, there := s.state.Outcome(m.Txn); there {
		s.post(outcome(api.MsgTell, m, known.Outcome, known.At))
		return
	}
	if !s.heldForAnother(m) {
		s.abort(m.Txn, s.node, outcome(api.MsgTell, m, api.Aborted, api.Stamp{}))
	}
}

// heldForAnother tells whether a message's transaction is held here with another home than the message's.
func (s *Shard) heldForAnother(m api.Msg) bool {
	held, there := s.state.Get(m.Txn)
	return there && held.Home != m.Home
}

// mayCommit tells whether a message's transaction is held here, with the message's home, and may be committed at the message's stamp.
func (s *Shard) mayCommit(m api.Msg) bool {
	held, there := s.state.Get(m.Txn)
	return there && held.Home == m.Home && !stamp.Less(m.At, held.At) && valid.Usable(m.At)
}

// commitAt commits a message's transaction, for its home and at its stamp.
func (s *Shard) commitAt(m api.Msg, replies ...api.Msg) {
	s.clock.Observe(m.At)
	s.reserve(m.At)
	s.settle(api.Record{Kind: api.RecDecide, Txn: m.Txn, Home: m.Home, Outcome: api.Committed, At: m.At}, replies)
}

// abort aborts a transaction for a home, held here or not.
func (s *Shard) abort(txn api.Txn, home uint32, replies ...api.Msg) {
	s.settle(api.Record{Kind: api.RecDecide, Txn: txn, Home: home, Outcome: api.Aborted}, replies)
}

// settle logs an outcome. The reply that tells it, if there is one, stands ahead of the reads that it wakes.
func (s *Shard) settle(r api.Record, replies []api.Msg) {
	s.enter(r)
	for _, m := range replies {
		s.post(m)
	}
	s.wake()
}

// vote makes a Prepare's Vote.
func (s *Shard) vote(m api.Msg, status api.Errno, at api.Stamp) {
	s.post(api.Msg{Kind: api.MsgVote, To: m.From, Txn: m.Txn, Home: m.Home, Status: status, At: at})
}

// outcome gives the message that tells an outcome to who has asked.
func outcome(kind api.Kind, m api.Msg, o api.Outcome, at api.Stamp) api.Msg {
	return api.Msg{Kind: kind, To: m.From, Txn: m.Txn, Home: m.Home, Outcome: o, At: at}
}
