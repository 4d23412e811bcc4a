package backup

import (
	"strconv"
	"strings"
	"testing"

	"tidemark/api"
	"tidemark/cluster"
	"tidemark/disk"
	"tidemark/feed"
	"tidemark/state"
	"tidemark/wal"
)

const (
	pair = "shards 2\nclients 2\ncapacity 65536\npark 4\nwindow 10\nsplit m"
	gone = "begin 2 rw %\nscan 2 % % 0\ncalm 0\ncalm 0\nput 2 a 1\ncommit 2\ncalm 0\ncalm 0\ncalm 0\ncalm 0\ncalm 0\nwall 3 9\nbegin 3 ro %\nscan 3 % % 0\ncalm 0\ncalm 0"
)

func txn(client, seq uint32) api.Txn { return api.Txn{Client: client, Seq: seq} }

func reserve(wall uint64) api.Record { return api.Record{Kind: api.RecReserve, Wall: wall} }

func mark(at api.Stamp) api.Record { return api.Record{Kind: api.RecMark, At: at} }

// written gives the records of a transaction, of the number seq, that wrote at a stamp: "k=v", or "k" for a deletion.
func written(seq uint32, at api.Stamp, told ...string) []api.Record {
	var writes []api.Write
	for _, text := range told {
		key, value, put := strings.Cut(text, "=")
		writes = append(writes, api.Write{Key: key, Delete: !put, Value: value})
	}
	return []api.Record{
		{Kind: api.RecPrepare, Txn: txn(2, seq), At: at, Writes: writes},
		{Kind: api.RecDecide, Txn: txn(2, seq), Outcome: api.Committed, At: at},
	}
}

// shown is what a shard shows that has these records behind a ceiling of 200, and whose clock is at 100.
func shown(t *testing.T, lists ...[]api.Record) api.Shown {
	t.Helper()
	d := disk.New(api.MaxCapacity)
	log, _, e := wal.Open(d)
	for _, list := range append([][]api.Record{{reserve(200)}}, lists...) {
		for _, r := range list {
			e = max(e, log.Append(r))
		}
	}
	if e != api.OK {
		t.Fatalf("the log takes not all: %d", e)
	}
	return api.Shown{
		Disk:    [api.Slots]string{d.Bytes(0), d.Bytes(1)},
		Written: [api.Slots]string{d.Bytes(0), d.Bytes(1)},
		Last:    at(100, 0, 0),
	}
}

func shards(list ...api.Shown) api.Result { return api.Result{Shards: list} }

func wantTake(t *testing.T, what string, r api.Result, s api.Stamp, told ...string) {
	t.Helper()
	if text, e := Take(r, s); text != modelText(s, pairsOf(told...)) || e != api.OK {
		t.Errorf("%s: Take at %v gives %q, %d, want %q", what, s, text, e, told)
	}
}

func wantNotTaken(t *testing.T, what string, r api.Result, s api.Stamp, want api.Errno) {
	t.Helper()
	if text, e := Take(r, s); text != "" || e != want {
		t.Errorf("%s: Take at %v gives %q, %d, want %d", what, s, text, e, want)
	}
}

// The chapter's examples.
func TestTakeExamples(t *testing.T) {
	r := cluster.Run(pair, gone)
	wantNotTaken(t, "at the bound", r, at(9, 0, 3), api.ErrEarly)
	wantTake(t, "below the bound", r, at(9, 0, 2), "a=1")
	wantTake(t, "ahead of the bound", r, at(8, 0, 0), "a=1")
	wantTake(t, "at the commit", r, at(0, 2, 1), "a=1")
	wantTake(t, "below the commit", r, at(0, 2, 0))
	wantTake(t, "at the zero stamp", r, at(0, 0, 0))
}

// P20.3: the errors, and which of them is told.
func TestTakeErrors(t *testing.T) {
	wantNotTaken(t, "of no shard", shards(), at(0, 0, 0), api.ErrEarly)
	wantNotTaken(t, "of no shard, at the top", shards(), at(topWall, 0, 0), api.ErrArg)
	marked := shown(t, []api.Record{mark(at(150, 0, 0))})
	wantNotTaken(t, "early and old", shards(marked), at(120, 0, 0), api.ErrEarly)
	wantNotTaken(t, "old", shards(marked), at(99, 0, 0), api.ErrOld)
	wantNotTaken(t, "at the top", shards(marked), at(topWall, 0, 0), api.ErrArg)

	last := shown(t)
	last.Disk[0] = modelLog([]api.Record{reserve(topWall)})
	last.Last = at(topWall, topSmall, topSmall)
	wantNotTaken(t, "at the top, and not early", shards(last), at(topWall, 0, 0), api.ErrArg)
	wantTake(t, "below the top", shards(last), at(topWall-1, topSmall, topSmall))

	plain := shown(t)
	wantTake(t, "below the bound", shards(plain), at(99, topSmall, topSmall))
	wantNotTaken(t, "at the bound", shards(plain), at(100, 0, 0), api.ErrEarly)
	wantNotTaken(t, "above the bound", shards(plain), at(101, 0, 0), api.ErrEarly)
	held := shown(t)
	held.Held = []api.Held{{At: at(40, 0, 1)}}
	wantTake(t, "below what is held", shards(plain, held), at(40, 0, 0))
	wantNotTaken(t, "at what is held", shards(held, plain), at(40, 0, 1), api.ErrEarly)
	wantNotTaken(t, "what can't be replayed has no ceiling", shards(plain, shown(t, []api.Record{reserve(7)})), at(0, 0, 0), api.ErrEarly)
}

// P20.3: the watermarks that count are those of the disks, each of them.
func TestTakeWatermarks(t *testing.T) {
	plain, marked := shown(t), shown(t, []api.Record{mark(at(50, 1, 1))})
	for _, r := range []api.Result{shards(marked), shards(marked, plain), shards(plain, marked), shards(plain, marked, plain)} {
		wantNotTaken(t, "below the watermark", r, at(50, 1, 0), api.ErrOld)
		wantNotTaken(t, "far below the watermark", r, at(0, 0, 0), api.ErrOld)
		wantTake(t, "at the watermark", r, at(50, 1, 1))
		wantTake(t, "above the watermark", r, at(50, 1, 2))
	}
	plain.Watermark = at(90, 0, 0)
	wantTake(t, "one that is shown alone", shards(plain), at(5, 0, 0))
	marked.Watermark = at(3, 0, 0)
	wantNotTaken(t, "one that is not shown", shards(marked), at(5, 0, 0), api.ErrOld)
	unsynced := shown(t)
	unsynced.Written[0] = marked.Written[0]
	wantTake(t, "one that is not synced", shards(unsynced), at(5, 0, 0))
}

// P20.3: of each key the newest version that is not above the stamp, unless it is a deletion.
func TestTakeVersions(t *testing.T) {
	r := shards(shown(t,
		written(1, at(10, 0, 0), "a=1", "b=1", "c=1", "d="),
		written(2, at(20, 0, 0), "a=2", "b"),
		written(3, at(20, 0, 1), "c=3", "e"),
		written(4, at(30, 0, 0), "b=4", "c"),
	))
	wantTake(t, "ahead of all", r, at(9, topSmall, topSmall))
	wantTake(t, "the first", r, at(10, 0, 0), "a=1", "b=1", "c=1", "d=")
	wantTake(t, "ahead of the second", r, at(19, topSmall, topSmall), "a=1", "b=1", "c=1", "d=")
	wantTake(t, "the second", r, at(20, 0, 0), "a=2", "c=1", "d=")
	wantTake(t, "the third", r, at(20, 0, 1), "a=2", "c=3", "d=")
	wantTake(t, "the fourth", r, at(30, 0, 0), "a=2", "b=4", "d=")
	wantTake(t, "behind all", r, at(99, 0, 0), "a=2", "b=4", "d=")

	pruned := shards(shown(t, written(1, at(10, 0, 0), "a=1", "b=1"), written(2, at(20, 0, 0), "a=2", "b"), []api.Record{mark(at(25, 0, 0))}, written(3, at(30, 0, 0), "a=3")))
	wantTake(t, "at the watermark", pruned, at(25, 0, 0), "a=2")
	wantTake(t, "above the watermark", pruned, at(30, 0, 0), "a=3")
}

// P20.3: what is prepared, or decided and not synced, is no version; an image's are.
func TestTakeFromDisks(t *testing.T) {
	kept, late := written(1, at(10, 0, 0), "a=1"), written(2, at(60, 0, 0), "a=2", "b=2")
	prepared := shown(t, kept, late[:1])
	wantTake(t, "prepared", shards(prepared), at(59, 0, 0), "a=1")
	wantNotTaken(t, "at the stamp that is held", shards(prepared), at(60, 0, 0), api.ErrEarly)
	unsynced := shown(t, kept)
	unsynced.Written[0] = shown(t, kept, late).Written[0]
	wantTake(t, "not synced", shards(unsynced), at(59, 0, 0), "a=1")

	s := state.New(0)
	for _, r := range append(append([]api.Record{reserve(200)}, kept...), late...) {
		s.Apply(r)
	}
	d := disk.New(api.MaxCapacity)
	log, _, _ := wal.Open(d)
	log.Checkpoint(s.Image())
	begun := shown(t, kept)
	begun.Disk[1] = d.Bytes(1)
	wantTake(t, "in an image", shards(begun), at(60, 0, 0), "a=2", "b=2")
	wantTake(t, "in an image, earlier", shards(begun), at(59, 0, 0), "a=1")
	wantNotTaken(t, "in another one's image", shards(shown(t), begun), at(0, 0, 0), api.ErrEarly)
}

// P20.3: of all shards together, by key; of a key that several have, the pair of the lowest place.
func TestTakeOfSeveral(t *testing.T) {
	first := shown(t, written(1, at(10, 0, 0), "b=0", "m=0", "x=0"), written(2, at(30, 0, 0), "m"))
	second := shown(t, written(1, at(10, 0, 0), "a=1", "m=1", "\xff=1"), written(2, at(20, 0, 0), "b=1", "x=1"))
	third := shown(t, written(1, at(5, 0, 0), "a", "c=2", "m=2", "\xff=2"), written(2, at(40, 0, 0), "a=2", "c"))
	wantTake(t, "the third alone", shards(first, second, third), at(9, 0, 0), "c=2", "m=2", "\xff=2")
	wantTake(t, "the lowest place", shards(first, second, third), at(10, 0, 0), "a=1", "b=0", "c=2", "m=0", "x=0", "\xff=1")
	wantTake(t, "a later version does not count for more", shards(first, second, third), at(20, 0, 0), "a=1", "b=0", "c=2", "m=0", "x=0", "\xff=1")
	wantTake(t, "a deletion hides none", shards(first, second, third), at(30, 0, 0), "a=1", "b=0", "c=2", "m=1", "x=0", "\xff=1")
	wantTake(t, "in another order", shards(third, second, first), at(30, 0, 0), "a=1", "b=1", "c=2", "m=2", "x=1", "\xff=2")
	wantTake(t, "behind all", shards(third, second, first), at(40, 0, 0), "a=2", "b=1", "m=2", "x=1", "\xff=2")
	wantTake(t, "one twice", shards(second, second), at(40, 0, 0), "a=1", "b=1", "m=1", "x=1", "\xff=1")
}

// P20.3: there may be more pairs than a read may answer.
func TestTakeMany(t *testing.T) {
	var lists [2][][]api.Record
	var told []string
	for seq := range uint32(100) {
		var keys []string
		for i := range 10 {
			keys = append(keys, strconv.Itoa(1000+int(seq))+strconv.Itoa(i)+"=v")
		}
		told = append(told, keys...)
		lists[seq%2] = append(lists[seq%2], written(seq+1, at(uint64(seq), 0, 0), keys...))
	}
	wantTake(t, "many", shards(shown(t, lists[0]...), shown(t, lists[1]...)), at(99, 0, 0), told...)
	wantTake(t, "half as many", shards(shown(t, lists[0]...), shown(t, lists[1]...)), at(49, 0, 0), told[:500]...)
}

// P20.3: the lowest place counts among many, too.
func TestTakeOfManyTwice(t *testing.T) {
	var lists [3][][]api.Record
	var told []string
	for seq := range uint32(60) {
		for place := range lists {
			lists[place] = append(lists[place], written(seq+1, at(uint64(seq), 0, 0), "k"+strconv.Itoa(100+int(seq))+"="+strconv.Itoa(place)))
		}
		told = append(told, "k"+strconv.Itoa(100+int(seq))+"=0")
	}
	wantTake(t, "three times the same keys", shards(shown(t, lists[0]...), shown(t, lists[1]...), shown(t, lists[2]...)), at(99, 0, 0), told...)
}

// P20.3: any results, beside the model.
func TestTakeOfAnyResults(t *testing.T) {
	seen := map[string]int{}
	for seed := range int64(3000) {
		d := newDice(seed)
		r := d.result()
		for range 5 {
			s := d.stamp()
			switch d.Intn(20) {
			case 0:
				s.Wall = topWall
			case 1:
				s = feed.Bound(r)
			}
			want, e, why := modelTake(r, s)
			if got, no := Take(r, s); got != want || no != e {
				t.Fatalf("seed %d: Take at %v gives %q, %d, want %q, %d", seed, s, got, no, want, e)
			}
			seen[strconv.Itoa(int(e))]++
			for _, name := range why {
				seen[name]++
			}
		}
	}
	wantSeen(t, seen, "0", "1", "201", "90", "pairs", "above", "several", "deleted", "the lowest place", "hides none")
}
