package backup

import (
	"slices"
	"strconv"
	"strings"
	"testing"

	"tidemark/api"
	"tidemark/clock"
	"tidemark/route"
	"tidemark/stamp"
	"tidemark/state"
	"tidemark/wal"
)

// three is the configuration of the chapter's examples.
func three() api.Config {
	return api.Config{Shards: 3, Clients: 1, Splits: []string{"b", "m"}, Capacity: 65536, Park: 4, Window: 10}
}

func wantRestore(t *testing.T, what string, c api.Config, text string, records ...[]api.Record) {
	t.Helper()
	disks, e := Restore(c, text)
	if e != api.OK || len(disks) != len(records) {
		t.Fatalf("%s: Restore gives %d texts, %d, want %d", what, len(disks), e, len(records))
	}
	for shard, list := range records {
		if want := modelLog(list); disks[shard] != want {
			_, got, good := wal.Scan(disks[shard])
			t.Errorf("%s: shard %d has %x: %d bytes are good: %+v; want %+v", what, shard, disks[shard], good, got, list)
		}
	}
}

func wantNotRestored(t *testing.T, what string, c api.Config, text string, want api.Errno) {
	t.Helper()
	if disks, e := Restore(c, text); len(disks) != 0 || e != want {
		t.Errorf("%s: Restore gives %d texts, %d, want %d", what, len(disks), e, want)
	}
}

// numbered gives so many pairs, their keys rising behind a beginning.
func numbered(n int, begin string) []api.Pair {
	var list []api.Pair
	for i := range n {
		list = append(list, api.Pair{Key: begin + strconv.Itoa(10000+i), Value: strconv.Itoa(i)})
	}
	return list
}

func prepared(shard, seq uint32, at api.Stamp, pairs []api.Pair) api.Record {
	r := api.Record{Kind: api.RecPrepare, Txn: txn(4294967295, seq), Home: shard, At: at}
	for _, p := range pairs {
		r.Writes = append(r.Writes, api.Write{Key: p.Key, Value: p.Value})
	}
	return r
}

func decided(shard, seq uint32, at api.Stamp) api.Record {
	return api.Record{Kind: api.RecDecide, Txn: txn(4294967295, seq), Home: shard, Outcome: api.Committed, At: at}
}

// The chapter's examples, and the edges of the groups.
func TestRestoreExamples(t *testing.T) {
	s := at(5, 0, 2)
	wantRestore(t, "two pairs", three(), summed(two),
		[]api.Record{reserve(6), prepared(0, 1, s, pairsOf("a=1")), decided(0, 1, s)},
		[]api.Record{reserve(6), prepared(1, 1, s, pairsOf("b=")), decided(1, 1, s)},
		[]api.Record{reserve(6)})
	list := numbered(17, "a")
	wantRestore(t, "17 pairs", three(), modelText(s, list),
		[]api.Record{reserve(6), prepared(0, 1, s, list[:16]), prepared(0, 2, s, list[16:]), decided(0, 1, s), decided(0, 2, s)},
		[]api.Record{reserve(6)}, []api.Record{reserve(6)})
	wantRestore(t, "16 pairs", three(), modelText(s, list[:16]),
		[]api.Record{reserve(6), prepared(0, 1, s, list[:16]), decided(0, 1, s)}, []api.Record{reserve(6)}, []api.Record{reserve(6)})
	last := numbered(32, "m")
	wantRestore(t, "32 pairs, the last shard", three(), modelText(s, last),
		[]api.Record{reserve(6)}, []api.Record{reserve(6)},
		[]api.Record{reserve(6), prepared(2, 1, s, last[:16]), prepared(2, 2, s, last[16:]), decided(2, 1, s), decided(2, 2, s)})
	wantRestore(t, "no pairs", three(), modelText(s, nil), []api.Record{reserve(6)}, []api.Record{reserve(6)}, []api.Record{reserve(6)})

	one := api.Config{Shards: 1, Clients: 6, Capacity: 256}
	wantRestore(t, "the zero stamp", one, modelText(at(0, 0, 0), pairsOf("a=1")), []api.Record{reserve(1), prepared(0, 1, at(0, 0, 0), pairsOf("a=1")), decided(0, 1, at(0, 0, 0))})
	top := at(topWall-1, topSmall, topSmall)
	wantRestore(t, "the last stamp", one, modelText(top, pairsOf("a=1")), []api.Record{reserve(topWall), prepared(0, 1, top, pairsOf("a=1")), decided(0, 1, top)})
}

// P20.5: the errors, and which of them is told.
func TestRestoreErrors(t *testing.T) {
	small := three()
	small.Capacity = 256
	big := modelText(at(5, 0, 2), numbered(64, "c"))
	for _, c := range []api.Config{{}, {Shards: 3}, {Shards: 1, Clients: 1, Capacity: 255}, {Shards: 1, Clients: 1, Capacity: 1 << 21}, {Shards: 2, Clients: 1, Capacity: 256}, {Shards: 2, Clients: 1, Capacity: 256, Splits: []string{""}}, {Shards: 7, Clients: 1, Capacity: 65536, Splits: []string{"a", "b", "c", "d", "e", "f"}}, {Shards: -1, Clients: 1, Capacity: 65536}} {
		wantNotRestored(t, "no configuration", c, summed(two), api.ErrArg)
		wantNotRestored(t, "no configuration and no backup", c, "x", api.ErrArg)
		wantNotRestored(t, "no configuration and no room", c, big, api.ErrArg)
	}
	for _, text := range []string{"", "x", two, summed(two) + "x", summed(two + "\n"), summed(two)[1:]} {
		wantNotRestored(t, "no backup", three(), text, api.ErrBackup)
	}
	wantNotRestored(t, "no backup and no room", small, big+"x", api.ErrBackup)
	wantNotRestored(t, "no room", small, big, api.ErrFull)
}

// P20.5: each shard's bytes must have room, those at the limit have.
func TestRestoreCapacities(t *testing.T) {
	s := at(1<<40, 0, 2)
	for _, begin := range []string{"a", "b", "m"} {
		for _, n := range []int{16, 17, 100, 700} {
			list := numbered(n, begin)
			size := len(modelLog(modelRecords(0, s, list)))
			c := three()
			if size < api.MinCapacity {
				t.Fatalf("%d pairs are too few: %d bytes", n, size)
			}
			c.Capacity = size
			if disks, e := Restore(c, modelText(s, list)); e != api.OK || len(disks[modelOwner(c, begin)]) != size {
				t.Errorf("%d pairs in %d bytes: %d", n, size, e)
			}
			c.Capacity = size - 1
			if c.Capacity >= api.MinCapacity {
				wantNotRestored(t, "a byte too many", c, modelText(s, list), api.ErrFull)
			}
			c.Capacity = max(size-38, api.MinCapacity) // the last record has no room, or half of one
			wantNotRestored(t, "a record too many", c, modelText(s, list), api.ErrFull)
		}
	}
}

// P20.5, P20.6: the greatest disk, full to the last group, and beyond it.
func TestRestoreOfAWholeDisk(t *testing.T) {
	c := three()
	c.Capacity = api.MaxCapacity
	value := strings.Repeat("v", maxValue)
	var list []api.Pair
	for i := range 16 * 700 {
		list = append(list, api.Pair{Key: "m" + strings.Repeat("k", 20) + strconv.Itoa(100000+i), Value: value})
	}
	fits := len(list)
	for len(modelLog(modelRecords(2, at(5, 0, 0), list[:fits]))) > api.MaxCapacity {
		fits -= 16
	}
	text, _ := Write(at(5, 0, 0), list[:fits])
	disks, e := Restore(c, text)
	if e != api.OK || len(disks) != 3 {
		t.Fatalf("Restore of %d pairs: %d", fits, e)
	}
	up := startOn(t, c, text)
	if again := mustTake(t, up.Result(), at(5, 0, 0)); again != text {
		t.Error("the backup is another one")
	}
	text, _ = Write(at(5, 0, 0), list[:fits+16])
	wantNotRestored(t, "one group more", c, text, api.ErrFull)
	text, _ = Write(at(5, 0, 0), list)
	wantNotRestored(t, "many more", c, text, api.ErrFull)
}

// within is the pairs in a span.
func within(pairs []api.Pair, span api.Span) []api.Pair {
	var some []api.Pair
	for _, p := range pairs {
		if span.Lo <= p.Key && (span.Hi == "" || p.Key < span.Hi) {
			some = append(some, p)
		}
	}
	return some
}

// P20.5, P20.6: any backups in any configurations, beside the model; and what each disk is the state of.
func TestAnyRestores(t *testing.T) {
	seen := map[string]int{}
	for seed := range int64(600) {
		d := newDice(seed)
		c, s, pairs := d.config(), d.usable(), d.pairs(200)
		c.Capacity = []int{api.MaxCapacity, 256 + d.Intn(10000)}[d.Intn(2)]
		want, no := modelRestore(c, s, pairs)
		disks, e := Restore(c, modelText(s, pairs))
		if e != no || !slices.Equal(disks, want) {
			t.Fatalf("seed %d: Restore gives %q, %d, want %q, %d", seed, disks, e, want, no)
		}
		seen[strconv.Itoa(int(e))]++
		for shard, bytes := range disks {
			wantPart(t, d, shard, bytes, s, modelPart(c, shard, pairs))
		}
		if t.Failed() {
			t.Fatalf("seed %d", seed)
		}
	}
	wantSeen(t, seen, "0", "60")
}

// wantPart holds a disk to a shard's part of a backup.
func wantPart(t *testing.T, d dice, shard int, bytes string, s api.Stamp, part []api.Pair) {
	t.Helper()
	g, records, good := wal.Scan(bytes)
	kept, e := state.Replay(uint32(shard), records)
	if g != 1 || good != len(bytes) || e != api.OK {
		t.Fatalf("shard %d: generation %d, %d of %d bytes, %d", shard, g, good, len(bytes), e)
	}
	if len(kept.Held()) != 0 || kept.Ceiling() <= s.Wall || kept.Watermark() != (api.Stamp{}) {
		t.Errorf("shard %d holds %v, its ceiling is %d, its watermark %v", shard, kept.Held(), kept.Ceiling(), kept.Watermark())
	}
	var versions []api.Version
	for _, p := range part {
		versions = append(versions, api.Version{Key: p.Key, At: s, Value: p.Value})
	}
	if !slices.Equal(kept.Versions(), versions) {
		t.Errorf("shard %d has %+v, want %+v", shard, kept.Versions(), versions)
	}
	for range 4 {
		span := api.Span{Lo: d.pick("", d.text(maxKey)), Hi: d.pick("", d.text(maxKey))}
		for _, later := range []api.Stamp{s, stamp.Max(s, d.usable()), at(topWall-1, topSmall, topSmall)} {
			if got, e := kept.Read(span, later); e != api.OK || !slices.Equal(got, within(part, span)) {
				t.Errorf("shard %d: %q at %v reads %q, %d", shard, span, later, got, e)
			}
		}
		if early := d.usable(); stamp.Less(early, s) {
			if got, e := kept.Read(span, early); e != api.OK || len(got) != 0 {
				t.Errorf("shard %d: %q at %v reads %q, %d", shard, span, early, got, e)
			}
		}
	}
	ticks := clock.Reopen(uint32(shard), 10, kept.Ceiling())
	if tick, e := ticks.Tick(); e == api.OK && !stamp.Less(s, tick) || e != api.OK && s.Wall != topWall-1 {
		t.Errorf("shard %d: behind %v its clock ticks %v, %d", shard, s, tick, e)
	}
}

// P20.6: more than a read may answer are there all the same.
func TestRestoreOfMany(t *testing.T) {
	for _, n := range []int{maxPairs, maxPairs + 1} {
		list := numbered(n, "n")
		disks, e := Restore(three(), modelText(at(5, 0, 0), list))
		if e != api.OK {
			t.Fatalf("%d pairs: %d", n, e)
		}
		_, records, _ := wal.Scan(disks[2])
		kept, _ := state.Replay(2, records)
		got, e := kept.Read(api.Span{}, at(5, 0, 0))
		if n > maxPairs && e != api.ErrMany || n == maxPairs && (e != api.OK || !slices.Equal(got, list)) {
			t.Errorf("%d pairs: a read of all gives %d pairs, %d", n, len(got), e)
		}
		if len(kept.Versions()) != n {
			t.Errorf("%d pairs: %d versions", n, len(kept.Versions()))
		}
	}
}

// P20.5: the configuration's text is not asked, only whether it has one: a key is where its Owner is.
func TestRestoreByOwner(t *testing.T) {
	c := api.Config{Shards: 6, Clients: 1, Splits: []string{"\x00", "a", "a\x00", "b", "\xff"}, Capacity: 4096}
	pairs := pairsOf("\x00=0", "A=1", "a=2", "a\x00=3", "a\x00\x00=4", "az=5", "b=6", "\xfe\xff=7", "\xff=8", "\xff\x00=9")
	disks, e := Restore(c, modelText(at(1, 0, 0), pairs))
	if e != api.OK {
		t.Fatal(e)
	}
	seen := 0
	for shard, bytes := range disks {
		_, records, _ := wal.Scan(bytes)
		kept, _ := state.Replay(uint32(shard), records)
		for _, v := range kept.Versions() {
			if route.Owner(c, v.Key) != uint32(shard) {
				t.Errorf("%q is in shard %d", v.Key, shard)
			}
			seen++
		}
	}
	if seen != len(pairs) {
		t.Errorf("%d of %d pairs are there", seen, len(pairs))
	}
}
