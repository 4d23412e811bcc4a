package audit

import (
	"slices"

	"tidemark/api"
	"tidemark/locks"
	"tidemark/stamp"
	"tidemark/token"
)

// review goes over the events of a result whose commits have no twins.
type review struct {
	past    past
	commits map[api.Txn]api.Stamp // of each transaction that is committed
	before  map[api.Txn]writes    // by the events that were passed
	began   map[api.Txn]api.Stamp // the greatest start stamp by the events that were passed
}

func newReview(r api.Result) *review {
	v := &review{
		past:    newPast(r),
		commits: map[api.Txn]api.Stamp{},
		before:  map[api.Txn]writes{},
		began:   map[api.Txn]api.Stamp{},
	}
	for _, c := range v.past.commits {
		v.commits[c.Txn] = c.At
	}
	return v
}

// look tells what is wrong with the next event.
func (v *review) look(a api.Answer) api.Errno {
	switch {
	case a.Op.Kind == api.OpBegin && a.Status == api.OK:
		return lookAtBegin(a)
	case a.Op.Kind == api.OpCommit && a.Status == api.OK:
		return v.lookAtCommit(a)
	case isRefusal(a):
		return v.lookAtRefusal(a)
	case isRead(a):
		return v.lookAtRead(a)
	}
	return api.OK
}

// pass keeps of an event what later ones are held to.
func (v *review) pass(a api.Answer) {
	note(v.before, a)
	if a.Op.Kind == api.OpBegin && a.Status == api.OK {
		v.began[a.Txn] = stamp.Max(v.began[a.Txn], a.At)
	}
}

func lookAtBegin(a api.Answer) api.Errno {
	if a.Op.Token == "" {
		return api.OK
	}
	seen, e := token.Decode(a.Op.Token)
	if e != api.OK || a.Op.AsOf && seen != a.At || !a.Op.AsOf && notBelow(seen, a.At) {
		return api.ErrCause
	}
	return api.OK
}

// lookAtCommit: one that has written nothing leaves no record, so only its token is looked at.
func (v *review) lookAtCommit(a api.Answer) api.Errno {
	if len(v.past.written[a.Txn]) > 0 {
		if at, there := v.commits[a.Txn]; !there || at != a.At {
			return api.ErrLost
		}
		if start, there := v.began[a.Txn]; there && notBelow(start, a.At) {
			return api.ErrCause
		}
	}
	if a.Token != token.Encode(a.At) {
		return api.ErrCause
	}
	return api.OK
}

// isRefusal tells whether an answer says that its transaction is not committed. ErrNone and ErrWait say nothing of it.
func isRefusal(a api.Answer) bool {
	switch a.Op.Kind {
	case api.OpCommit:
		return a.Status != api.OK && a.Status != api.ErrNone && a.Status != api.ErrWait
	case api.OpAbort:
		return a.Status == api.OK
	}
	return false
}

func (v *review) lookAtRefusal(a api.Answer) api.Errno {
	if _, there := v.commits[a.Txn]; there {
		return api.ErrGhost
	}
	return api.OK
}

func (v *review) lookAtRead(a api.Answer) api.Errno {
	if !slices.Equal(a.Pairs, v.gives(a, v.past.upTo(a.At))) {
		return api.ErrSnapshot
	}
	at, committed := v.commits[a.Txn]
	if committed && !slices.Equal(a.Pairs, v.gives(a, v.past.below(at))) {
		return api.ErrSerial
	}
	return api.OK
}

// gives tells what a read gives over the map that the first so many commits make (P18.3).
func (v *review) gives(a api.Answer, turns int) []api.Pair {
	s := spanOf(a.Op)
	m := v.past.within(s, turns)
	for _, w := range rising(v.before[a.Txn]) {
		if locks.Inside(w.Key, s) {
			m[w.Key] = w
		}
	}
	list := pairs(m)
	if a.Op.Kind == api.OpScan && a.Op.Back {
		slices.Reverse(list)
	}
	if a.Op.Limit > 0 && a.Op.Limit < len(list) {
		list = list[:a.Op.Limit]
	}
	return list
}
