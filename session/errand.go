package session

import (
	"maps"
	"slices"

	"tidemark/api"
	"tidemark/locks"
	"tidemark/stamp"
	"tidemark/valid"
)

// awaited is what an operation waits for.
type awaited int

const (
	nothing awaited = iota
	theParts
	theVotes
	theHome
)

// errand is the operation that waits: what went out for it, and what came so far, by shard.
type errand struct {
	op     api.Op
	awaits awaited
	asked  map[uint32]api.Msg // what is not answered
	parts  map[uint32][]api.Pair
	votes  map[uint32]api.Stamp // by the shards that are not told the outcome; of a no the zero stamp
}

// unanswered gives what went out and is not answered, once more.
func (e *errand) unanswered() []api.Msg {
	var out []api.Msg
	for _, shard := range slices.Sorted(maps.Keys(e.asked)) {
		m := e.asked[shard]
		m.Reads, m.Writes = slices.Clone(m.Reads), slices.Clone(m.Writes) // what is kept goes to nobody
		out = append(out, m)
	}
	return out
}

// counts tells whether a valid message answers what went out (P16.9 to P16.11).
func (e *errand) counts(m api.Msg) bool {
	asked, there := e.asked[m.From]
	if !there {
		return false
	}
	switch e.awaits {
	case theParts:
		return m.Kind == api.MsgData && m.Op == asked.Op && m.At == asked.At && allInside(m.Pairs, asked.Reads[0])
	case theVotes:
		return m.Kind == api.MsgVote && sameTxn(m, asked) && (m.Status != api.OK || mayPrepare(m.At, asked.At))
	case theHome:
		return m.Kind == api.MsgDone && sameTxn(m, asked) && (m.Outcome == api.Aborted || m.At == asked.At)
	}
	return false
}

func allInside(pairs []api.Pair, span api.Span) bool {
	return !slices.ContainsFunc(pairs, func(p api.Pair) bool { return !locks.Inside(p.Key, span) })
}

func sameTxn(a, b api.Msg) bool { return a.Txn == b.Txn && a.Home == b.Home }

// mayPrepare tells whether a transaction with that start stamp may be prepared at a stamp.
func mayPrepare(at, start api.Stamp) bool { return valid.Usable(at) && stamp.Less(start, at) }

// pairs gives the pairs of all parts, keys rising: the shards' ranges rise, as do the keys of a part.
func (e *errand) pairs() []api.Pair {
	var list []api.Pair
	for _, shard := range slices.Sorted(maps.Keys(e.parts)) {
		list = append(list, e.parts[shard]...)
	}
	return list
}

// commitStamp gives the greatest stamp of the votes, once all are there.
func (e *errand) commitStamp() api.Stamp {
	return stamp.Max(slices.Collect(maps.Values(e.votes))...)
}

// untold gives the shards that take part in a commit and are not told its outcome, rising.
func (e *errand) untold() []uint32 {
	shards := slices.AppendSeq(slices.Collect(maps.Keys(e.asked)), maps.Keys(e.votes))
	slices.Sort(shards)
	return shards
}
