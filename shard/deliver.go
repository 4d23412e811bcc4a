package shard

import (
	"tidemark/api"
	"tidemark/msg"
)

// Deliver takes a message in and gives the messages that go out now (P14.5).
func (s *Shard) Deliver(m api.Msg) []api.Msg {
	if m.To == s.node && msg.Valid(m) == api.OK {
		s.take(m)
	}
	return s.leaving()
}

// take does what a valid message asks for, by its kind. A kind that is none of a shard's asks for nothing.
func (s *Shard) take(m api.Msg) {
	takers := [...]func(*Shard, api.Msg){
		api.MsgRead:    (*Shard).read,
		api.MsgPrepare: (*Shard).prepare,
		api.MsgCommit:  (*Shard).commit,
		api.MsgDecide:  (*Shard).learn,
		api.MsgQuery:   (*Shard).query,
		api.MsgTell:    (*Shard).learn, // the last of all kinds, so that each one has a place
	}
	taker := takers[m.Kind]
	if taker == nil {
		return
	}
	if !unlessFull(func() { taker(s, m) }) {
		s.refuse(m)
	}
}

// refuse answers a message for which the log has no room. Who asks for an outcome, or tells one, gets no answer: it may come again.
func (s *Shard) refuse(m api.Msg) {
	switch m.Kind {
	case api.MsgRead:
		s.answer(m, api.ErrFull, nil)
	case api.MsgPrepare:
		s.vote(m, api.ErrFull, api.Stamp{})
	}
}
