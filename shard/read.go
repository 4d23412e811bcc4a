package shard

import (
	"slices"

	"tidemark/api"
	"tidemark/stamp"
	"tidemark/valid"
)

// parked is a read that waits for an outcome.
type parked struct {
	msg   api.Msg
	again func() bool // answers the read and tells true, or tells false while it is blocked
}

// read takes a Read (P14.6).
func (s *Shard) read(m api.Msg) {
	if !valid.Usable(m.At) {
		s.answer(m, api.ErrExhausted, nil)
		return
	}
	if s.isOld(m.At) {
		s.answer(m, api.ErrOld, nil)
		return
	}
	s.clock.Observe(m.At) // so that nothing is prepared at or below it from now on
	s.reserve(m.At)
	m.Reads = slices.Clone(m.Reads) // it may be kept
	if again := s.asking(m); !again() {
		s.wait(parked{msg: m, again: again})
	}
}

// asking gives what asks for a read: now, and as often as it has to wait.
func (s *Shard) asking(m api.Msg) func() bool {
	span := m.Reads[0]
	return func() bool {
		if !s.isOld(m.At) && len(s.state.Blocks(span, m.At)) > 0 {
			return false
		}
		pairs, status := s.state.Read(span, m.At) // ErrOld below the watermark, ErrMany above the limit
		s.answer(m, status, pairs)
		return true
	}
}

// wait parks a read, unless it is parked already or there is no room.
func (s *Shard) wait(p parked) {
	twin := func(q parked) bool { return q.msg.From == p.msg.From && q.msg.Op == p.msg.Op }
	if slices.ContainsFunc(s.parked, twin) {
		return
	}
	if len(s.parked) >= s.park {
		s.answer(p.msg, api.ErrBusy, nil)
		return
	}
	s.parked = append(s.parked, p)
}

// wake asks for each parked read again, in their order, and keeps those that are blocked still.
func (s *Shard) wake() {
	var still []parked
	for _, p := range s.parked {
		if !p.again() {
			still = append(still, p)
		}
	}
	s.parked = still
}

func (s *Shard) isOld(at api.Stamp) bool { return stamp.Less(at, s.state.Watermark()) }

// answer makes a read's Data.
func (s *Shard) answer(m api.Msg, status api.Errno, pairs []api.Pair) {
	s.post(api.Msg{Kind: api.MsgData, To: m.From, Op: m.Op, At: m.At, Status: status, Pairs: pairs})
}
