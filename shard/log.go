package shard

import "tidemark/api"

// noRoom is what the logging of a record gives up with, however deep inside it is.
type noRoom struct{}

// unlessFull does what has records to log, and tells whether the log had room for them all. Those that it took ahead of the one without room stay.
func unlessFull(do func()) (done bool) {
	defer func() {
		cause := recover()
		if _, full := cause.(noRoom); !full && cause != nil {
			panic(cause) // hiding it would spoil the answer
		}
	}()
	do()
	return true
}

// enter logs a record, or gives up.
func (s *Shard) enter(r api.Record) {
	if s.log.Append(r) != api.OK {
		panic(noRoom{})
	}
	s.state.Apply(r) // it refuses none: who enters a record has asked the state and the clock first
}

// reserve lays a ceiling above a stamp down ahead of the stamp's use, or gives up.
func (s *Shard) reserve(at api.Stamp) {
	ceiling, must := s.clock.Need(at)
	if !must {
		return
	}
	s.enter(api.Record{Kind: api.RecReserve, Wall: ceiling})
	s.clock.Reserve(ceiling)
}
