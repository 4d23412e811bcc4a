package audit

import (
	"cmp"
	"maps"
	"slices"
	"sort"

	"tidemark/api"
	"tidemark/locks"
	"tidemark/stamp"
)

// writes is a write for each of some keys.
type writes map[string]api.Write

// version is what a commit has written under a key.
type version struct {
	turn  int // the place of the commit in the commits' order
	write api.Write
}

// past is what the commits have written, laid out by key: the state behind any number of them is then told without laying them down anew.
type past struct {
	written  map[api.Txn]writes   // by all events, of transactions that are not committed, too
	commits  []api.Entry          // those that count, in their order
	versions map[string][]version // of each key, by turn
	keys     []string             // all keys of versions, rising
}

func newPast(r api.Result) past {
	p := past{written: byTxn(r.Events), commits: inOrder(r.Commits), versions: map[string][]version{}}
	for turn, c := range p.commits {
		for _, w := range rising(p.written[c.Txn]) {
			p.versions[w.Key] = append(p.versions[w.Key], version{turn, w})
		}
	}
	p.keys = slices.Sorted(maps.Keys(p.versions))
	return p
}

// inOrder gives the entries that count: by stamp, then by transaction.
func inOrder(list []api.Entry) []api.Entry {
	var commits []api.Entry
	for _, e := range list {
		if counts(e) {
			commits = append(commits, e)
		}
	}
	slices.SortStableFunc(commits, func(a, b api.Entry) int {
		return cmp.Or(
			stamp.Compare(a.At, b.At),
			cmp.Compare(a.Txn.Client, b.Txn.Client),
			cmp.Compare(a.Txn.Seq, b.Txn.Seq))
	})
	return commits
}

// byTxn gives what each transaction has written.
func byTxn(events []api.Event) map[api.Txn]writes {
	all := map[api.Txn]writes{}
	for _, e := range events {
		note(all, e.Answer)
	}
	return all
}

// note lays an answer's write, if it is a write event's, over what its transaction has written before.
func note(all map[api.Txn]writes, a api.Answer) {
	w, is := written(a)
	if !is {
		return
	}
	if all[a.Txn] == nil {
		all[a.Txn] = writes{}
	}
	all[a.Txn][w.Key] = w
}

// upTo counts the commits at or below a stamp.
func (p past) upTo(at api.Stamp) int {
	return sort.Search(len(p.commits), func(i int) bool { return stamp.Less(at, p.commits[i].At) })
}

// below counts the commits below a stamp.
func (p past) below(at api.Stamp) int {
	return sort.Search(len(p.commits), func(i int) bool { return notBelow(p.commits[i].At, at) })
}

// within tells of each key of a span what the first so many commits have written there last.
func (p past) within(s api.Span, turns int) writes {
	last := writes{}
	from, _ := slices.BinarySearch(p.keys, s.Lo)
	for _, key := range p.keys[from:] {
		if !locks.Inside(key, s) {
			break // nor is any greater one
		}
		list := p.versions[key]
		if n := sort.Search(len(list), func(i int) bool { return list[i].turn >= turns }); n > 0 {
			last[key] = list[n-1].write
		}
	}
	return last
}

// rising gives writes by key.
func rising(m writes) []api.Write {
	var list []api.Write
	for _, key := range slices.Sorted(maps.Keys(m)) {
		list = append(list, m[key])
	}
	return list
}

// pairs gives, by key, what is there behind the writes: of a deletion nothing.
func pairs(m writes) []api.Pair {
	var list []api.Pair
	for _, w := range rising(m) {
		if !w.Delete {
			list = append(list, api.Pair{Key: w.Key, Value: w.Value})
		}
	}
	return list
}
