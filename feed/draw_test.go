package feed

import (
	"math/rand"
	"slices"
	"strconv"
	"testing"

	"tidemark/api"
	"tidemark/cluster"
	"tidemark/disk"
	"tidemark/stamp"
	"tidemark/state"
	"tidemark/wal"
)

// dice draws results, and scripts.
type dice struct{ *rand.Rand }

func newDice(seed int64) dice { return dice{rand.New(rand.NewSource(seed))} }

func (d dice) pick(list ...string) string { return list[d.Intn(len(list))] }

func (d dice) below(n int) string { return strconv.Itoa(d.Intn(n)) }

func (d dice) txn() api.Txn { return txn(uint32(2+d.Intn(2)), uint32(1+d.Intn(3))) }

func (d dice) stamp() api.Stamp { return at(uint64(d.Intn(9)), uint32(d.Intn(2)), uint32(d.Intn(2))) }

func (d dice) record() api.Record {
	switch d.Intn(8) {
	case 0, 1:
		return reserve(uint64(4 + d.Intn(12)))
	case 2, 3, 4:
		return prepare(d.txn(), d.pick("a", "b", "c"), d.stamp())
	case 5:
		return abort(d.txn())
	case 6:
		return commit(d.txn(), d.stamp())
	}
	return api.Record{Kind: api.RecMark, At: d.stamp()}
}

// shard draws what a shard shows: mostly what one could, with a log whose end is not synced and a checkpoint now and then.
func (d dice) shard(node uint32) api.Shown {
	bytes := disk.New(api.MaxCapacity)
	log, _, _ := wal.Open(bytes)
	s := state.New(node)
	log.Append(reserve(3))
	s.Apply(reserve(3))
	for range d.Intn(25) {
		if r := d.record(); s.Apply(r) == api.OK || d.Intn(60) == 0 {
			log.Append(r)
		}
		switch d.Intn(12) {
		case 0:
			log.Sync()
		case 1:
			log.Checkpoint(s.Image())
		}
	}
	shown := api.Shown{Last: at(uint64(d.Intn(20)), uint32(d.Intn(3)), node), Held: s.Held()}
	for slot := range api.Slots {
		shown.Written[slot] = bytes.Bytes(slot)
		shown.Disk[slot] = bytes.Bytes(slot)[:bytes.Synced(slot)]
	}
	d.spoil(&shown)
	return shown
}

// spoil changes what a shard shows into something that none would, in one of two cases.
func (d dice) spoil(s *api.Shown) {
	slot := d.Intn(api.Slots)
	switch d.Intn(14) {
	case 0:
		s.Disk[0], s.Disk[1] = s.Disk[1], s.Disk[0]
	case 1:
		s.Written[slot] = s.Written[slot][:d.Intn(len(s.Written[slot])+1)]
	case 2:
		s.Disk[slot] = s.Disk[slot][:d.Intn(len(s.Disk[slot])+1)]
	case 3:
		s.Written[slot] = ""
	case 4:
		s.Disk[slot] = s.Written[slot]
	case 5:
		s.Written[slot], s.Disk[slot] = s.Disk[slot], s.Written[slot]
	case 6:
		s.Held = append(s.Held, api.Held{At: d.stamp()})
	}
}

func (d dice) event() api.Event {
	kind := []api.OpKind{api.OpPut, api.OpPut, api.OpPut, api.OpDelete, api.OpGet, api.OpCommit, 0}[d.Intn(7)]
	e := event(d.txn(), api.Op{Kind: kind, Key: d.pick("a", "b", "", "\xff"), Value: d.below(50)})
	if d.Intn(6) == 0 {
		e.Answer.Status = api.ErrWait
	}
	return e
}

// result draws any result: one that no run gives, mostly.
func (d dice) result() api.Result {
	var r api.Result
	for node := range d.Intn(4) {
		r.Shards = append(r.Shards, d.shard(uint32(node)))
	}
	for range d.Intn(12) {
		e := entry(d.txn(), d.stamp())
		if d.Intn(6) == 0 {
			e.Outcome = api.Outcome(d.Intn(4))
		}
		r.Commits = append(r.Commits, e)
	}
	for range d.Intn(20) {
		r.Events = append(r.Events, d.event())
	}
	return r
}

func wantSeen(t *testing.T, seen map[string]int, names ...string) {
	t.Helper()
	for _, name := range names {
		if seen[name] < 20 {
			t.Errorf("drawn too seldom: %s (%v)", name, seen)
		}
	}
}

// P19.1 to P19.3: any results, beside the model.
func TestAnyResults(t *testing.T) {
	seen := map[string]int{}
	for seed := range int64(4000) {
		d := newDice(seed)
		f, m := New(), modelFeed{}
		for range 4 {
			r := d.result()
			bound, why := modelBound(r)
			if got := Bound(r); got != bound {
				t.Fatalf("seed %d: the bound is %v, want %v by %s", seed, got, bound, why)
			}
			from, to := d.stamp(), d.stamp()
			changes := modelChanges(r, from, to)
			if got := Changes(r, from, to); !slices.Equal(got, changes) {
				t.Fatalf("seed %d: the changes from %v to %v are %v, want %v", seed, from, to, got, changes)
			}
			want, end := m.poll(r)
			list, got := f.Poll(r)
			if !slices.Equal(list, want) || got != end || f.Bound() != end {
				t.Fatalf("seed %d: Poll tells %v and %v, the feed is at %v, want %v and %v", seed, list, got, f.Bound(), want, end)
			}
			seen[why]++
			seen["changes"] += min(len(changes), 1)
			seen["news"] += min(len(want), 1)
		}
	}
	wantSeen(t, seen, "changes", "news", "no shard", "Last", "ceiling", "Held", "durable", "unsynced 0", "unsynced 1")
}

// config draws a configuration.
func (d dice) config(capacity int) (string, int) {
	shards := 1 + d.Intn(3)
	text := "shards " + strconv.Itoa(shards) + "\nclients 3\ncapacity " + strconv.Itoa(capacity) + "\npark " + d.below(5) + "\nwindow " + d.pick("0", "3", "10", "100")
	for _, split := range []string{"b", "m"}[:shards-1] {
		text += "\nsplit " + split
	}
	return text, shards
}

// line draws a line for a cluster with so many shards and three clients.
func (d dice) line(shards int) string {
	client, shard := " "+strconv.Itoa(shards+d.Intn(3)), " "+d.below(shards)
	key := " " + d.pick("a", "b", "m", "z")
	switch d.Intn(24) {
	case 0, 1:
		return "begin" + client + " " + d.pick("rw", "rw", "rw", "ro", "at") + " " + d.pick("%", "@"+strconv.Itoa(shards), "@"+strconv.Itoa(shards+1))
	case 2:
		return "get" + client + key
	case 3:
		return d.pick("scan", "rscan") + client + " % " + d.pick("%", "m", "z") + " 0"
	case 4, 5, 6:
		return "put" + client + key + " " + d.below(100)
	case 7:
		return "del" + client + key
	case 8, 9, 10:
		return "commit" + client
	case 11:
		return d.pick("abort", "kill", "tick", "tick") + client
	case 12:
		return d.pick("tick", "tick", "save") + shard
	case 13:
		return "wall " + d.below(shards+3) + " " + d.below(40)
	case 14:
		return d.pick("drop 0", "copy 0", "round 1", "mark"+shard+" "+stamp.Text(at(uint64(d.Intn(8)), 0, 0)))
	case 15:
		return "crash" + shard + " " + d.keep() + " " + d.keep()
	case 16, 17:
		return "sync" + shard
	case 18, 19, 20, 21:
		return "take " + d.below(3)
	}
	return "calm " + d.below(3)
}

func (d dice) keep() string { return d.pick("0", d.below(200), "9223372036854775807") }

// bout draws the lines of a transaction that is asked without a stop.
func (d dice) bout(shards int) []string {
	client, key := " "+strconv.Itoa(shards+d.Intn(3)), d.pick("a", "b", "m", "z")
	return []string{"kill" + client, "begin" + client + " rw %", "scan" + client + " % % 0", "calm 0", "calm 0", "put" + client + " " + key + " x", "commit" + client}
}

// lost draws a transaction whose Prepare is aborted ahead of the sync, on a shard whose clock goes on: a crash may keep the Prepare alone.
func (d dice) lost(shards int) []string {
	first, second := strconv.Itoa(shards+d.Intn(2)), strconv.Itoa(shards+2)
	key, home := "a", "0"
	if d.Intn(2) == 0 {
		key, home = "z", strconv.Itoa(shards-1)
	}
	list := []string{"calm 0", "calm 0", "kill " + first, "kill " + second,
		"begin " + first + " rw %", "put " + first + " " + key + " y", "commit " + first, "take 0",
		"wall " + second + " " + d.below(60), "begin " + second + " ro %", "scan " + second + " % % 0"}
	for range shards {
		list = append(list, "take 0")
	}
	list = append(list, "tick "+home)
	if d.Intn(2) == 0 {
		list = append(list, "crash "+home+" "+d.pick("35", "36", "37", "38", "60")+" 0", "tick "+first, "calm 0", "calm 0", "calm 0", "calm 0")
	}
	return list
}

func (d dice) script(lines, shards int) []string {
	var list []string
	for len(list) < lines {
		switch d.Intn(24) {
		case 0, 1:
			list = append(list, d.bout(shards)...)
		case 2:
			list = append(list, d.lost(shards)...)
		}
		list = append(list, d.line(shards))
	}
	return list
}

// below gives the entries with a stamp below another one.
func below(list []api.Entry, bound api.Stamp) []api.Entry {
	var some []api.Entry
	for _, e := range list {
		if stamp.Less(e.At, bound) {
			some = append(some, e)
		}
	}
	return some
}

// P19.4 and P19.5: behind any lines nothing comes late, the bound does not fall, and what a feed has told in all is just what is below it.
func TestRuns(t *testing.T) {
	seen := map[string]int{}
	for seed := range int64(250) {
		d := newDice(seed)
		capacity := api.MaxCapacity
		if seed%4 == 0 {
			capacity = 300 + d.Intn(1200)
		}
		config, shards := d.config(capacity)
		c, _ := cluster.Start(config)
		f, p := New(), c.Result()
		var told []api.Version
		for place, line := range d.script(80+d.Intn(100), shards) {
			c.Step(line)
			if d.Intn(3) > 0 {
				continue
			}
			r := c.Result()
			if got, want := below(r.Commits, Bound(p)), below(p.Commits, Bound(p)); !slices.Equal(got, want) {
				t.Fatalf("seed %d, line %d: below %v there is %v, and was %v", seed, place, Bound(p), got, want)
			}
			if stamp.Less(Bound(r), Bound(p)) {
				t.Fatalf("seed %d, line %d: the bound falls from %v to %v", seed, place, Bound(p), Bound(r))
			}
			_, why := modelBound(r)
			seen[why]++
			seen["rises"] += max(stamp.Compare(Bound(r), Bound(p)), 0)
			p = r
			if d.Intn(2) == 0 {
				list, bound := f.Poll(r)
				told = append(told, list...)
				seen["told"] += len(list)
				wantTold(t, seed, told, r, bound)
			}
		}
	}
	wantSeen(t, seen, "rises", "told", "Last", "ceiling", "Held", "durable", "unsynced 0")
}

func wantTold(t *testing.T, seed int64, told []api.Version, r api.Result, bound api.Stamp) {
	t.Helper()
	if want := Changes(r, api.Stamp{}, bound); !slices.Equal(told, want) {
		t.Fatalf("seed %d: in all there is told %v, want %v", seed, told, want)
	}
	inOrder := slices.IsSortedFunc(told, func(a, b api.Version) int { return stamp.Compare(a.At, b.At) })
	if !inOrder {
		t.Fatalf("seed %d: stamps fall: %v", seed, told)
	}
}

// P19.6: behind a crash of all and SettleRounds rounds a scan brings the bound up to its start.
func TestKeepsUp(t *testing.T) {
	seen := map[string]int{}
	for seed := range int64(400) {
		d := newDice(seed)
		config, shards := d.config(api.MaxCapacity)
		c, _ := cluster.Start(config)
		lines := d.script(60+d.Intn(100), shards)
		for shard := range shards {
			lines = append(lines, "crash "+strconv.Itoa(shard)+" "+d.keep()+" "+d.keep())
		}
		for range api.SettleRounds {
			lines = append(lines, "round "+d.below(3))
		}
		client := strconv.Itoa(shards + d.Intn(3))
		lines = append(lines, "kill "+client, "begin "+client+" ro %", "scan "+client+" % % 0", "calm 0", "calm 0")
		for _, line := range lines {
			c.Step(line)
		}
		r := c.Result()
		scan := r.Events[len(r.Events)-1].Answer
		if strconv.Itoa(int(scan.Client)) != client || scan.Op.Kind != api.OpScan || scan.Status != api.OK && scan.Status != api.ErrOld {
			t.Fatalf("seed %d: the scan is not answered: %+v", seed, scan)
		}
		if scan.Status == api.ErrOld {
			seen["old"]++
			continue
		}
		if stamp.Less(Bound(r), scan.At) {
			t.Fatalf("seed %d: the bound is %v, the scan began at %v", seed, Bound(r), scan.At)
		}
		list, _ := New().Poll(r)
		seen["told"] += len(list)
	}
	wantSeen(t, seen, "told", "old")
}
