package feed

import (
	"slices"
	"testing"

	"tidemark/api"
)

func put(txn api.Txn, key, value string) api.Event {
	return event(txn, api.Op{Kind: api.OpPut, Key: key, Value: value})
}

func del(txn api.Txn, key string) api.Event {
	return event(txn, api.Op{Kind: api.OpDelete, Key: key})
}

func event(txn api.Txn, op api.Op) api.Event {
	return api.Event{Answer: api.Answer{Txn: txn, Op: op}}
}

func entry(txn api.Txn, at api.Stamp) api.Entry {
	return api.Entry{Txn: txn, Outcome: api.Committed, At: at}
}

func version(key string, at api.Stamp, value string) api.Version {
	return api.Version{Key: key, At: at, Value: value}
}

func wantChanges(t *testing.T, what string, r api.Result, from, to api.Stamp, want ...api.Version) {
	t.Helper()
	if got := Changes(r, from, to); !slices.Equal(got, want) {
		t.Errorf("%s: the changes are %v, want %v", what, got, want)
	}
}

var top = at(api.TopWall, api.TopLogical, 1<<32-1)

// P19.2: from the one stamp on, below the other one.
func TestChangesBetween(t *testing.T) {
	r := api.Result{
		Events:  []api.Event{put(txn(5, 1), "a", "1"), put(txn(5, 2), "b", "2"), put(txn(5, 3), "c", "3")},
		Commits: []api.Entry{entry(txn(5, 1), at(6, 0, 0)), entry(txn(5, 2), at(7, 0, 0)), entry(txn(5, 3), at(8, 0, 0))},
	}
	a, b, c := version("a", at(6, 0, 0), "1"), version("b", at(7, 0, 0), "2"), version("c", at(8, 0, 0), "3")
	wantChanges(t, "all", r, at(0, 0, 0), top, a, b, c)
	wantChanges(t, "just all", r, at(6, 0, 0), at(8, 0, 1), a, b, c)
	wantChanges(t, "below the last one", r, at(6, 0, 0), at(8, 0, 0), a, b)
	wantChanges(t, "above the first one", r, at(6, 0, 1), at(8, 0, 1), b, c)
	wantChanges(t, "one", r, at(7, 0, 0), at(7, 0, 1), b)
	wantChanges(t, "nothing between", r, at(7, 0, 1), at(8, 0, 0))
	wantChanges(t, "from a stamp to itself", r, at(7, 0, 0), at(7, 0, 0))
	wantChanges(t, "backwards", r, at(8, 0, 1), at(6, 0, 0))
	wantChanges(t, "ahead of all", r, at(0, 0, 0), at(6, 0, 0))
	wantChanges(t, "behind all", r, at(8, 0, 1), top)
	wantChanges(t, "of nothing", api.Result{}, at(0, 0, 0), top)
	wantChanges(t, "without events", api.Result{Commits: r.Commits}, at(0, 0, 0), top)
	wantChanges(t, "without commits", api.Result{Events: r.Events}, at(0, 0, 0), top)
	r.Commits[1].At = top
	wantChanges(t, "below the top", r, at(0, 0, 0), top, a, c)
}

// P19.2: by stamp, then by client, then by number, whatever the list's order; each one's writes by key.
func TestChangesInOrder(t *testing.T) {
	early, same, later := at(6, 0, 0), at(7, 1, 0), at(7, 1, 1)
	r := api.Result{
		Events: []api.Event{
			put(txn(5, 10), "d", "10"), put(txn(5, 9), "e", "9"), put(txn(4, 300), "f", "300"), put(txn(600, 1), "a", "600"),
			put(txn(9, 1), "z", "early"), put(txn(9, 1), "\xff", "early"), put(txn(9, 1), "", "early"), put(txn(9, 1), "za", "early"),
			put(txn(1, 1), "b", "later"),
		},
		Commits: []api.Entry{
			entry(txn(1, 1), later), entry(txn(600, 1), same), entry(txn(5, 10), same), entry(txn(9, 1), early),
			entry(txn(4, 300), same), entry(txn(5, 9), same),
		},
	}
	wantChanges(t, "drawn apart", r, at(0, 0, 0), top,
		version("", early, "early"), version("z", early, "early"), version("za", early, "early"), version("\xff", early, "early"),
		version("f", same, "300"), version("e", same, "9"), version("d", same, "10"), version("a", same, "600"),
		version("b", later, "later"))
}

// P19.2: what a commit has written is what the audit says: the last write of each key that was answered OK.
func TestChangesWritten(t *testing.T) {
	one, two, when := txn(5, 1), txn(6, 1), at(7, 0, 0)
	refused := put(one, "x", "no")
	refused.Answer.Status = api.ErrReadOnly
	odd := del(one, "c")
	odd.Answer.Op.Value = "of no meaning"
	r := api.Result{
		Events: []api.Event{
			put(one, "b", "1"), put(one, "a", "2"), put(two, "b", "other"), refused, odd, put(one, "b", "3"),
			del(one, "a"), put(one, "d", ""), event(one, api.Op{Kind: api.OpGet, Key: "g"}), event(one, api.Op{Kind: api.OpCommit}),
		},
		Commits: []api.Entry{entry(one, when)},
	}
	wantChanges(t, "last writes", r, at(0, 0, 0), top,
		api.Version{Key: "a", At: when, Delete: true}, version("b", when, "3"), api.Version{Key: "c", At: when, Delete: true}, version("d", when, ""))
}

// P19.2: entries with another outcome don't count; each entry that counts does, also the second one of a transaction.
func TestChangesEntries(t *testing.T) {
	one, two, three := txn(5, 1), txn(5, 2), txn(5, 3)
	r := api.Result{
		Events: []api.Event{put(one, "a", "1"), put(two, "b", "2"), put(three, "c", "3")},
		Commits: []api.Entry{
			{Txn: one, Outcome: api.Aborted, At: at(3, 0, 0)}, {Txn: two, Outcome: api.Unknown, At: at(4, 0, 0)}, {Txn: two, Outcome: 7, At: at(5, 0, 0)},
			{Txn: three, Home: 9, Outcome: api.Committed, At: at(6, 0, 0)}, entry(three, at(2, 0, 0)), entry(three, at(2, 0, 0)), entry(txn(8, 8), at(1, 0, 0)),
		},
	}
	wantChanges(t, "mixed", r, at(0, 0, 0), top,
		version("c", at(2, 0, 0), "3"), version("c", at(2, 0, 0), "3"), version("c", at(6, 0, 0), "3"))
	r.Shards = []api.Shown{{Last: at(9, 0, 0)}}
	r.Waiting = []api.Event{put(three, "w", "waits")}
	r.Status, r.Steps, r.Flight = api.ErrConfig, 4, 4
	wantChanges(t, "nothing else counts", r, at(3, 0, 0), top, version("c", at(6, 0, 0), "3"))
}

// Ways: the iterator can be left at any commit, and gone over again.
func TestCommitsAreLeftEarly(t *testing.T) {
	all := []api.Entry{entry(txn(5, 3), at(8, 0, 0)), entry(txn(5, 1), at(6, 0, 0)), {Txn: txn(5, 9), Outcome: api.Aborted}, entry(txn(5, 2), at(7, 0, 0))}
	for stop := range 4 {
		seq := commits(all)
		for range 2 {
			var seen []uint32
			for c := range seq {
				if len(seen) == stop {
					break
				}
				seen = append(seen, c.Txn.Seq)
			}
			if want := []uint32{1, 2, 3}[:stop]; !slices.Equal(seen, want) {
				t.Errorf("the first %d are %v, want %v", stop, seen, want)
			}
		}
	}
}

// stage is a result of one shard whose bound is the given stamp, with a commit at each of the walls.
func stage(t *testing.T, bound api.Stamp, walls ...uint64) api.Result {
	t.Helper()
	s := shown(t, 0, reserve(1000))
	s.Last = bound
	r := shards(s)
	for i, wall := range walls {
		who := txn(5, uint32(i+1))
		r.Events = append(r.Events, put(who, "a", "1"))
		r.Commits = append(r.Commits, entry(who, at(wall, 0, 0)))
	}
	return r
}

func a1(wall uint64) api.Version { return version("a", at(wall, 0, 0), "1") }

// P19.3: a feed tells what has come between two bounds, and keeps its own if the result's is not above it.
func TestPoll(t *testing.T) {
	f := New()
	if f.Bound() != at(0, 0, 0) {
		t.Errorf("a new feed's bound is %v", f.Bound())
	}
	wantPoll(t, "no shard", f, api.Result{Events: []api.Event{put(txn(5, 1), "a", "1")}, Commits: []api.Entry{entry(txn(5, 1), at(0, 0, 0))}}, at(0, 0, 0))
	wantPoll(t, "a first bound", f, stage(t, at(4, 0, 0), 4, 5), at(4, 0, 0))
	wantPoll(t, "the same bound", f, stage(t, at(4, 0, 0), 3, 4, 5), at(4, 0, 0))
	wantPoll(t, "a lower bound", f, stage(t, at(3, 0, 0), 1, 3, 4), at(4, 0, 0))
	wantPoll(t, "just above", f, stage(t, at(4, 0, 1), 3, 4, 5), at(4, 0, 1), a1(4))
	wantPoll(t, "nothing between", f, stage(t, at(5, 0, 0), 3, 4, 5), at(5, 0, 0))
	wantPoll(t, "two more", f, stage(t, at(9, 0, 0), 5, 8, 3, 9), at(9, 0, 0), a1(5), a1(8))
	wantPoll(t, "no shard any more", f, api.Result{}, at(9, 0, 0))
	wantPoll(t, "none below", f, stage(t, at(20, 0, 0), 1, 2, 3), at(20, 0, 0))
}

// P19.3: the zero stamp is not below itself, and what is committed there is told by the first bound above it.
func TestPollFromZero(t *testing.T) {
	f := New()
	wantPoll(t, "at zero", f, stage(t, at(0, 0, 0), 0), at(0, 0, 0))
	wantPoll(t, "above zero", f, stage(t, at(0, 0, 1), 0), at(0, 0, 1), a1(0))
}

// P19.7: two feeds are apart.
func TestFeedsAreApart(t *testing.T) {
	f, g := New(), New()
	r := stage(t, at(9, 0, 0), 5)
	wantPoll(t, "the one", f, r, at(9, 0, 0), a1(5))
	if g.Bound() != at(0, 0, 0) {
		t.Errorf("the other one's bound is %v", g.Bound())
	}
	wantPoll(t, "the other one", g, r, at(9, 0, 0), a1(5))
	wantPoll(t, "the other one goes on", g, stage(t, at(12, 0, 0), 5, 11), at(12, 0, 0), a1(11))
	wantPoll(t, "the one stays", f, r, at(9, 0, 0))
}
