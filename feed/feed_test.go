package feed

import (
	"slices"
	"testing"

	"tidemark/api"
	"tidemark/cluster"
	"tidemark/disk"
	"tidemark/durable"
	"tidemark/state"
	"tidemark/wal"
)

const (
	pair  = "shards 2\nclients 2\ncapacity 65536\npark 4\nwindow 10\nsplit m"
	alone = "shards 1\nclients 2\ncapacity 65536\npark 4\nwindow 10"

	prepared  = "begin 2 rw %\nput 2 a 1\ncommit 2\ncalm 0\ncalm 0"
	committed = "begin 2 rw %\nscan 2 % % 0\ncalm 0\ncalm 0\nput 2 a 1\ncommit 2\ncalm 0\ncalm 0\ncalm 0\ncalm 0"
	settled   = committed + "\ncalm 0"
	gone      = settled + "\nwall 3 9\nbegin 3 ro %\nscan 3 % % 0\ncalm 0\ncalm 0"
	late      = "begin 2 ro %\nget 2 z\ncalm 0\ncalm 0\ncommit 2\nbegin 1 rw %\nput 1 a 1\ncommit 1\ntake 0\nwall 2 5\nbegin 2 ro %\nget 2 z\ntake 0\ntick 0"
)

func at(wall uint64, logical, node uint32) api.Stamp {
	return api.Stamp{Wall: wall, Logical: logical, Node: node}
}

func txn(client, seq uint32) api.Txn { return api.Txn{Client: client, Seq: seq} }

func wantBound(t *testing.T, what string, r api.Result, want api.Stamp) {
	t.Helper()
	if got := Bound(r); got != want {
		t.Errorf("%s: the bound is %v, want %v", what, got, want)
	}
}

func wantPoll(t *testing.T, what string, f *Feed, r api.Result, bound api.Stamp, want ...api.Version) {
	t.Helper()
	list, got := f.Poll(r)
	if !slices.Equal(list, want) || got != bound {
		t.Errorf("%s: Poll tells %v and %v, want %v and %v", what, list, got, want, bound)
	}
	if f.Bound() != bound {
		t.Errorf("%s: the feed's bound is %v, want %v", what, f.Bound(), bound)
	}
}

// The chapter's examples 1 to 4.
func TestExamples(t *testing.T) {
	change := api.Version{Key: "a", At: at(0, 2, 1), Value: "1"}
	f := New()
	wantPoll(t, "no line", f, cluster.Run(pair, ""), at(0, 0, 0))
	wantPoll(t, "prepared at one shard", f, cluster.Run(pair, prepared), at(0, 0, 0))
	wantPoll(t, "held at one shard still", f, cluster.Run(pair, committed), at(0, 2, 1))
	wantPoll(t, "held nowhere", f, cluster.Run(pair, settled), at(0, 2, 1))
	wantPoll(t, "both clocks have gone on", f, cluster.Run(pair, gone), at(9, 0, 3), change)
	wantPoll(t, "once more", f, cluster.Run(pair, gone), at(9, 0, 3))

	r := cluster.Run(pair, committed)
	if len(r.Commits) != 1 || r.Commits[0].At != change.At || len(r.Shards[1].Held) != 1 {
		t.Errorf("example 3 is told otherwise: %+v", r)
	}
}

// The chapter's example 5: a Prepare that is not synced counts, also where it was aborted.
func TestExampleUnsynced(t *testing.T) {
	p := cluster.Run(alone, late)
	wantBound(t, "neither record is synced", p, at(0, 2, 0))
	if s := p.Shards[0]; len(s.Held) != 0 || s.Last != at(5, 0, 2) || len(durable.State(0, s).Held()) != 0 || durable.State(0, s).Ceiling() != 11 {
		t.Errorf("example 5 is told otherwise: %+v", s)
	}
	r := cluster.Run(alone, late+"\ncrash 0 35 0\ntick 1\ncalm 0\ncalm 0\ncalm 0\ncalm 0")
	if len(r.Commits) != 1 || r.Commits[0].Txn != txn(1, 1) || r.Commits[0].At != at(0, 2, 0) {
		t.Errorf("behind the crash there is committed: %v", r.Commits)
	}
	wantBound(t, "both records are synced", cluster.Run(alone, late+"\nsync 0"), at(5, 0, 2))
}

// shown is what a shard shows of which nothing bounds a feed below 100: to that a test adds one thing.
func shown(t *testing.T, node uint32, records ...api.Record) api.Shown {
	t.Helper()
	d := disk.New(api.MaxCapacity)
	log, _, e := wal.Open(d)
	for _, r := range records {
		e = max(e, log.Append(r))
	}
	if e != api.OK {
		t.Fatalf("node %d: the log takes not all: %d", node, e)
	}
	log.Sync()
	return api.Shown{
		Disk:    [api.Slots]string{d.Bytes(0), d.Bytes(1)},
		Written: [api.Slots]string{d.Bytes(0), d.Bytes(1)},
		Last:    at(100, 0, 0),
	}
}

func reserve(wall uint64) api.Record { return api.Record{Kind: api.RecReserve, Wall: wall} }

func prepare(txn api.Txn, key string, at api.Stamp) api.Record {
	return api.Record{Kind: api.RecPrepare, Txn: txn, At: at, Writes: []api.Write{{Key: key, Value: "1"}}}
}

func abort(txn api.Txn) api.Record {
	return api.Record{Kind: api.RecDecide, Txn: txn, Outcome: api.Aborted}
}

func commit(txn api.Txn, at api.Stamp) api.Record {
	return api.Record{Kind: api.RecDecide, Txn: txn, Outcome: api.Committed, At: at}
}

func bytesOf(t *testing.T, records ...api.Record) string {
	t.Helper()
	all := ""
	for _, r := range records {
		bytes, e := wal.Encode(r)
		if e != api.OK {
			t.Fatalf("%+v: %d", r, e)
		}
		all += bytes
	}
	return all
}

// begun is the bytes with which a log of the second generation begins.
func begun(t *testing.T, image string) string {
	t.Helper()
	d := disk.New(api.MaxCapacity)
	log, _, _ := wal.Open(d)
	if e := log.Checkpoint(image); e != api.OK {
		t.Fatalf("the log begins no generation: %d", e)
	}
	return d.Bytes(1)
}

func shards(list ...api.Shown) api.Result { return api.Result{Shards: list} }

// P19.1: no shard; a shard that has no log, or one that nothing makes a state of; the clock and the ceiling.
func TestBoundOfClocks(t *testing.T) {
	wantBound(t, "no shard", api.Result{}, at(0, 0, 0))
	wantBound(t, "no log", shards(api.Shown{Last: at(5, 1, 1)}), at(0, 0, 0))

	s := shown(t, 0, reserve(200))
	wantBound(t, "the clock", shards(s), at(100, 0, 0))
	s.Last = at(199, 7, 8)
	wantBound(t, "a later clock", shards(s), at(199, 7, 8))
	s.Last = at(200, 0, 1)
	wantBound(t, "a clock at the ceiling", shards(s), at(200, 0, 0))
	s.Last, s.Ceiling, s.Watermark = at(api.TopWall, 9, 9), 3, at(2, 0, 0)
	wantBound(t, "the ceiling of the disk, not the one that is shown", shards(s), at(200, 0, 0))
	s.Last = at(0, 0, 0)
	wantBound(t, "a clock that has not begun", shards(s), at(0, 0, 0))

	s = shown(t, 0, reserve(api.TopWall))
	s.Last = at(api.TopWall, 0, 1)
	wantBound(t, "at the top", shards(s), at(api.TopWall, 0, 0))

	wantBound(t, "no ceiling", shards(shown(t, 0)), at(0, 0, 0))
	wantBound(t, "records that cannot follow", shards(shown(t, 0, reserve(200), reserve(200))), at(0, 0, 0))
	wantBound(t, "a prepare above the ceiling", shards(shown(t, 0, prepare(txn(2, 1), "a", at(4, 0, 0)))), at(0, 0, 0))
}

// P19.1: the ceiling is that of what is synced, in the slot that counts.
func TestBoundOfSlots(t *testing.T) {
	s := shown(t, 0, reserve(60))
	s.Written[0] += bytesOf(t, reserve(300))
	wantBound(t, "a ceiling that is not synced", shards(s), at(60, 0, 0))

	later := state.New(0)
	later.Apply(reserve(80))
	s = shown(t, 0, reserve(60))
	s.Disk[1] = begun(t, later.Image())
	wantBound(t, "slot 1 of a later generation", shards(s), at(80, 0, 0))
	s.Disk[0], s.Disk[1] = s.Disk[1], s.Disk[0]
	wantBound(t, "slot 0 of a later generation", shards(s), at(80, 0, 0))

	wantBound(t, "the place is the node", shards(shown(t, 0, reserve(90)), s), at(0, 0, 0))
	second := state.New(1)
	second.Apply(reserve(70))
	s.Disk[0] = begun(t, second.Image())
	wantBound(t, "another one's image", shards(s), at(0, 0, 0))
	wantBound(t, "at its place", shards(shown(t, 0, reserve(90)), s), at(70, 0, 0))

	s = shown(t, 0, reserve(60))
	s.Disk[0] += bytesOf(t, reserve(110))[1:]
	wantBound(t, "spoilt behind the first record", shards(s), at(60, 0, 0))
}

// P19.1: what is held, as it is shown and as it is on the disk.
func TestBoundOfHeld(t *testing.T) {
	s := shown(t, 0, reserve(200))
	s.Held = []api.Held{{Txn: txn(2, 1), At: at(40, 0, 1)}, {Txn: txn(2, 2), At: at(30, 1, 1)}, {Txn: txn(2, 3), At: at(30, 2, 0)}}
	wantBound(t, "shown", shards(s), at(30, 1, 1))
	s.Held[1].At = at(150, 0, 0)
	wantBound(t, "shown last", shards(s), at(30, 2, 0))
	s.Held = s.Held[:2]
	wantBound(t, "shown first", shards(s), at(40, 0, 1))
	s.Held = s.Held[1:]
	wantBound(t, "shown above the clock", shards(s), at(100, 0, 0))

	one, two := prepare(txn(2, 1), "a", at(40, 0, 0)), prepare(txn(2, 2), "b", at(30, 0, 0))
	wantBound(t, "on the disk", shards(shown(t, 0, reserve(200), one, two)), at(30, 0, 0))
	wantBound(t, "one of them is aborted", shards(shown(t, 0, reserve(200), one, two, abort(two.Txn))), at(40, 0, 0))
	wantBound(t, "one of them is committed", shards(shown(t, 0, reserve(200), one, two, commit(one.Txn, at(50, 0, 0)))), at(30, 0, 0))
	wantBound(t, "both are over", shards(shown(t, 0, reserve(200), one, two, commit(one.Txn, at(50, 0, 0)), abort(two.Txn))), at(100, 0, 0))

	s = shown(t, 0, reserve(200), one)
	s.Written[0] += bytesOf(t, abort(one.Txn))
	wantBound(t, "an outcome that is not synced", shards(s), at(40, 0, 0))

	image := state.New(0)
	image.Apply(reserve(200))
	image.Apply(one)
	s = shown(t, 0, reserve(200))
	s.Disk[1] = begun(t, image.Image())
	s.Written[1] = s.Disk[1]
	wantBound(t, "in an image", shards(s), at(40, 0, 0))
	s.Entries = []api.Entry{{Txn: txn(3, 1), Outcome: api.Committed, At: at(1, 0, 0)}}
	wantBound(t, "outcomes don't count", shards(s), at(40, 0, 0))
}

// P19.1: Prepares that are written and not synced, in either slot.
func TestBoundOfUnsynced(t *testing.T) {
	one, two := prepare(txn(2, 1), "a", at(40, 0, 0)), prepare(txn(2, 2), "b", at(30, 0, 0))
	s := shown(t, 0, reserve(200))
	s.Written[0] += bytesOf(t, one, two, reserve(300), abort(two.Txn))
	wantBound(t, "two of them", shards(s), at(30, 0, 0))
	s.Disk[0] += bytesOf(t, one)
	wantBound(t, "one is synced and held", shards(s), at(30, 0, 0))
	s.Disk[0] += bytesOf(t, two)
	wantBound(t, "both are synced", shards(s), at(30, 0, 0))
	s.Disk[0] = s.Written[0]
	wantBound(t, "the abort is synced", shards(s), at(40, 0, 0))
	s.Written[0] = ""
	wantBound(t, "less is written than synced", shards(s), at(40, 0, 0))

	s = shown(t, 0, reserve(200), two, abort(two.Txn))
	wantBound(t, "what is synced and over does not count", shards(s), at(100, 0, 0))
	s.Written[0] += bytesOf(t, api.Record{Kind: api.RecMark, At: at(3, 0, 0)}, commit(txn(2, 9), at(4, 0, 0)), abort(txn(2, 8)), reserve(5))
	wantBound(t, "other records don't count", shards(s), at(100, 0, 0))
	s.Written[0] += bytesOf(t, one)[:20]
	wantBound(t, "a torn one does not count", shards(s), at(100, 0, 0))
	s.Written[0] += bytesOf(t, one)[20:]
	wantBound(t, "a whole one, whatever can follow", shards(s), at(40, 0, 0))

	s = shown(t, 0, reserve(200), reserve(201), reserve(202))
	s.Written[0] = shown(t, 0, one, two).Written[0]
	wantBound(t, "fewer records than are synced", shards(s), at(100, 0, 0))
	s.Written[0] = shown(t, 0, two, two, two, one).Written[0]
	wantBound(t, "places count, not what stands there", shards(s), at(40, 0, 0))
	s.Written[0] = shown(t, 0, two, two, one).Written[0]
	wantBound(t, "as many as are synced", shards(s), at(100, 0, 0))
}

// P19.1: a checkpoint that is begun and not synced.
func TestBoundOfSecondSlot(t *testing.T) {
	one, two := prepare(txn(2, 1), "a", at(40, 0, 0)), prepare(txn(2, 2), "b", at(30, 0, 0))
	s := shown(t, 0, reserve(200))
	s.Written[1] = begun(t, "any image") + bytesOf(t, one)
	wantBound(t, "in the other slot", shards(s), at(40, 0, 0))
	s.Written[0] += bytesOf(t, two)
	wantBound(t, "in both slots", shards(s), at(30, 0, 0))
	s.Written[1] = bytesOf(t, one)
	wantBound(t, "bytes that hold no log", shards(s), at(30, 0, 0))
	s.Disk[1] = begun(t, "any image")
	wantBound(t, "an image that is none", shards(s), at(0, 0, 0))
}

// P19.1: the least is that of all shards.
func TestBoundOfMany(t *testing.T) {
	first, second, third := shown(t, 0, reserve(200)), shown(t, 1, reserve(200)), shown(t, 2, reserve(90))
	wantBound(t, "two", shards(first, second), at(100, 0, 0))
	wantBound(t, "the last of three", shards(first, second, third), at(90, 0, 0))
	second.Last = at(80, 0, 0)
	wantBound(t, "the second of three", shards(first, second, third), at(80, 0, 0))
	first.Held = []api.Held{{At: at(7, 0, 0)}}
	wantBound(t, "the first of three", shards(first, second, third), at(7, 0, 0))
	third.Written[1] = begun(t, "") + bytesOf(t, prepare(txn(2, 1), "a", at(6, 9, 9)))
	wantBound(t, "the last of three again", shards(first, second, third), at(6, 9, 9))
}

// Ways: of any number of stamps the least; of none the zero stamp.
func TestLeast(t *testing.T) {
	if got := least(); got != at(0, 0, 0) {
		t.Errorf("of none: %v", got)
	}
	if got := least(at(5, 1, 1)); got != at(5, 1, 1) {
		t.Errorf("of one: %v", got)
	}
	list := []api.Stamp{at(5, 1, 1), at(5, 0, 2), at(5, 0, 1), at(api.TopWall, 0, 0), at(5, 0, 1)}
	if got := least(list...); got != at(5, 0, 1) {
		t.Errorf("of %v: %v", list, got)
	}
}
