package feed

import (
	"slices"

	"tidemark/api"
	"tidemark/audit"
	"tidemark/stamp"
	"tidemark/state"
	"tidemark/wal"
)

// bounding is a stamp that P19.1 names, and which of its lines names it.
type bounding struct {
	text string // packed: texts sort as the stamps do
	why  string
}

// modelBound gathers all that P19.1 names, line by line, and tells the least, and the first line that names it.
func modelBound(r api.Result) (api.Stamp, string) {
	if len(r.Shards) == 0 {
		return api.Stamp{}, "no shard"
	}
	var all []bounding
	add := func(s api.Stamp, why string) { all = append(all, bounding{stamp.Pack(s), why}) }
	for n, s := range r.Shards {
		_, records := wal.Pick(s.Disk[0], s.Disk[1])
		kept, e := state.Replay(uint32(n), records)
		if e != api.OK {
			kept = state.New(uint32(n))
		}
		add(s.Last, "Last")
		add(api.Stamp{Wall: kept.Ceiling()}, "ceiling")
		for _, h := range s.Held {
			add(h.At, "Held")
		}
		for _, h := range kept.Held() {
			add(h.At, "durable")
		}
		for slot, name := range []string{"unsynced 0", "unsynced 1"} {
			_, synced, _ := wal.Scan(s.Disk[slot])
			_, written, _ := wal.Scan(s.Written[slot])
			for k := len(synced); k < len(written); k++ {
				if written[k].Kind == api.RecPrepare {
					add(written[k].At, name)
				}
			}
		}
	}
	low := slices.MinFunc(all, func(a, b bounding) int {
		if a.text < b.text {
			return -1
		}
		return 1
	})
	for _, b := range all {
		if b.text == low.text {
			low = b
			break
		}
	}
	s, _ := stamp.Unpack(low.text)
	return s, low.why
}

// modelChanges takes the first entry that is left, again and again.
func modelChanges(r api.Result, from, to api.Stamp) []api.Version {
	var list []api.Version
	taken := make([]bool, len(r.Commits))
	for {
		first := -1
		for i, e := range r.Commits {
			counts := e.Outcome == api.Committed && stamp.Pack(e.At) >= stamp.Pack(from) && stamp.Pack(e.At) < stamp.Pack(to)
			if counts && !taken[i] && (first < 0 || ahead(e, r.Commits[first])) {
				first = i
			}
		}
		if first < 0 {
			return list
		}
		taken[first] = true
		e := r.Commits[first]
		for _, w := range audit.Writes(r, e.Txn) {
			list = append(list, api.Version{Key: w.Key, At: e.At, Delete: w.Delete, Value: w.Value})
		}
	}
}

func ahead(a, b api.Entry) bool {
	if a.At != b.At {
		return stamp.Pack(a.At) < stamp.Pack(b.At)
	}
	if a.Txn.Client != b.Txn.Client {
		return a.Txn.Client < b.Txn.Client
	}
	return a.Txn.Seq < b.Txn.Seq
}

// modelFeed is P19.3, word by word.
type modelFeed struct{ bound api.Stamp }

func (m *modelFeed) poll(r api.Result) ([]api.Version, api.Stamp) {
	bound, _ := modelBound(r)
	if stamp.Pack(bound) <= stamp.Pack(m.bound) {
		return nil, m.bound
	}
	list := modelChanges(r, m.bound, bound)
	m.bound = bound
	return list, bound
}
