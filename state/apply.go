package state

import (
	"tidemark/api"
	"tidemark/stamp"
	"tidemark/wal"
)

// Apply takes one more record (P13.2).
func (s *State) Apply(r api.Record) api.Errno {
	if wal.Valid(r) != api.OK {
		return api.ErrRecord
	}
	rules := [...]func(*State, api.Record) api.Errno{
		api.RecReserve: (*State).reserve,
		api.RecPrepare: (*State).prepare,
		api.RecDecide:  (*State).decide,
		api.RecMark:    (*State).mark,
		api.RecImage:   (*State).replace,
	}
	return rules[r.Kind](s, r) // a valid record's kind is one of these
}

// The rules, one for each kind of valid record: each looks first and changes then, so that a refusal changes nothing.

func (s *State) reserve(r api.Record) api.Errno {
	if r.Wall <= s.ceiling {
		return api.ErrBroken
	}
	s.ceiling = r.Wall
	return api.OK
}

func (s *State) prepare(r api.Record) api.Errno {
	h := api.Held{Txn: r.Txn, Home: r.Home, At: r.At, Reads: r.Reads, Writes: r.Writes}
	if !s.aboveCommits(r.At) || s.overtaken(h) || !s.hold(h) {
		return api.ErrBroken
	}
	return api.OK
}

func (s *State) decide(r api.Record) api.Errno {
	if s.decided(r.Txn) {
		return api.ErrBroken
	}
	if r.Outcome == api.Committed {
		return s.commit(r)
	}
	s.settle(r)
	return api.OK
}

// commit is the rule of a decision for Committed, of a transaction that has no outcome yet.
func (s *State) commit(r api.Record) api.Errno {
	h, there := s.held.Get(r.Txn)
	if !there || h.Home != r.Home || stamp.Less(r.At, h.At) || !s.reserved(r.At) {
		return api.ErrBroken
	}
	s.versions.Install(h.Writes, r.At) // it refuses nothing: no key that is held has a version at or above h.At
	s.settle(r)
	return api.OK
}

// settle lays a record's outcome down and lets go what its transaction held.
func (s *State) settle(r api.Record) {
	s.lay(api.Entry{Txn: r.Txn, Home: r.Home, Outcome: r.Outcome, At: r.At})
	s.held.Release(r.Txn)
}

func (s *State) mark(r api.Record) api.Errno {
	if !stamp.Less(s.Watermark(), r.At) {
		return api.ErrBroken
	}
	s.versions.Prune(r.At)
	return api.OK
}

func (s *State) replace(r api.Record) api.Errno {
	if !s.empty() {
		return api.ErrBroken
	}
	loaded, e := Load(s.node, r.Image)
	if e != api.OK {
		return e
	}
	s.content = loaded.content
	return api.OK
}
