package session

import (
	"slices"

	"tidemark/api"
	"tidemark/msg"
)

// Deliver takes a message in: the messages that go out for it, and the answer if it brings one (P16.8).
func (s *Session) Deliver(m api.Msg) ([]api.Msg, []api.Answer) {
	if m.To != s.node || msg.Valid(m) != api.OK || !s.errand.counts(m) {
		return nil, nil
	}
	delete(s.errand.asked, m.From)
	switch s.errand.awaits {
	case theParts:
		return nil, s.takePart(m)
	case theVotes:
		return s.takeVote(m)
	}
	return s.takeOutcome(m)
}

// takePart takes a part of a read (P16.9).
func (s *Session) takePart(m api.Msg) []api.Answer {
	if m.Status != api.OK {
		return s.readDone(m.Status, nil)
	}
	s.errand.parts[m.From] = slices.Clone(m.Pairs)
	if len(s.errand.asked) > 0 {
		return nil
	}
	span := spanOf(s.errand.op)
	pairs := overlaid(s.errand.pairs(), s.open.written(span))
	if len(pairs) > api.MaxPairs {
		return s.readDone(api.ErrMany, nil)
	}
	s.open.noteRead(span)
	return s.readDone(api.OK, chosen(pairs, s.errand.op))
}

// takeVote takes a participant's vote (P16.10).
func (s *Session) takeVote(m api.Msg) ([]api.Msg, []api.Answer) {
	s.errand.votes[m.From] = m.At
	if m.Status != api.OK {
		return s.decide(m, api.Aborted), s.commitFailed(m.Status)
	}
	if len(s.errand.asked) > 0 {
		return nil, nil
	}
	s.errand.awaits = theHome
	s.ask(m.Home, api.Msg{Kind: api.MsgCommit, Txn: m.Txn, Home: m.Home, At: s.errand.commitStamp()})
	return s.Tick(), nil
}

// takeOutcome takes what the home has decided (P16.11).
func (s *Session) takeOutcome(m api.Msg) ([]api.Msg, []api.Answer) {
	delete(s.errand.votes, m.From) // it has told the outcome, so it knows
	out := s.decide(m, m.Outcome)
	if m.Outcome == api.Aborted {
		return out, s.commitFailed(api.ErrAborted)
	}
	s.clock.Observe(m.At)
	return out, s.commitDone(s.errand.op, m.At)
}

// decide tells an outcome, which a message has brought, to all that wait for it. A message that brings an abort has the zero stamp.
func (s *Session) decide(m api.Msg, o api.Outcome) []api.Msg {
	var out []api.Msg
	for _, shard := range s.errand.untold() {
		out = append(out, api.Msg{Kind: api.MsgDecide, From: s.node, To: shard, Txn: m.Txn, Home: m.Home, Outcome: o, At: m.At})
	}
	return out
}
