package shard

import (
	"slices"

	"tidemark/api"
)

// letter is a message that is made and has not gone out.
type letter struct {
	msg    api.Msg
	behind int // so many records of the log must be durable first
}

// post lays a message at the outbox's end. It stands on all that the log holds by now.
func (s *Shard) post(m api.Msg) {
	m.From = s.node
	s.outbox = append(s.outbox, letter{msg: m, behind: s.log.End()})
}

// leaving takes out of the outbox what may go out: a beginning of it, for the log never shrinks.
func (s *Shard) leaving() []api.Msg {
	var out []api.Msg
	for _, l := range s.outbox {
		if l.behind > s.log.Synced() {
			break
		}
		out = append(out, l.msg)
	}
	s.outbox = slices.Delete(s.outbox, 0, len(out))
	return out
}
