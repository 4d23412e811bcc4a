package session

import (
	"tidemark/api"
	"tidemark/token"
)

// answer makes an operation's answer, of the transaction that is open now.
func (s *Session) answer(op api.Op, status api.Errno) api.Answer {
	id, start, _ := s.Open()
	a := api.Answer{Client: s.node, Txn: id, Op: op, Status: status, At: start}
	if op.Kind == api.OpCommit {
		a.At = api.Stamp{} // of a commit it is the commit stamp
	}
	return a
}

// atOnce answers an operation that has been asked just now.
func (s *Session) atOnce(op api.Op, status api.Errno) []api.Answer {
	return []api.Answer{s.answer(op, status)}
}

// readDone answers the read that waits.
func (s *Session) readDone(status api.Errno, pairs []api.Pair) []api.Answer {
	a := s.answer(s.errand.op, status)
	a.Pairs = pairs
	s.errand = errand{}
	return []api.Answer{a}
}

// commitFailed answers the commit that waits with an error.
func (s *Session) commitFailed(status api.Errno) []api.Answer {
	return s.end(s.answer(s.errand.op, status))
}

// commitDone answers a commit that was done at a stamp.
func (s *Session) commitDone(op api.Op, at api.Stamp) []api.Answer {
	s.token = token.Encode(at)
	a := s.answer(op, api.OK)
	a.At, a.Token = at, s.token
	return s.end(a)
}

// end closes the transaction by an answer.
func (s *Session) end(a api.Answer) []api.Answer {
	s.open = nil
	s.errand = errand{}
	return []api.Answer{a}
}
