package cluster

import (
	"math/rand"
	"reflect"
	"slices"
	"strconv"
	"strings"
	"testing"

	"tidemark/api"
	"tidemark/route"
	"tidemark/stamp"
	"tidemark/state"
	"tidemark/token"
	"tidemark/wal"
)

// durable is the fold of what a shard's disk holds for good.
func durable(t *testing.T, n int, s api.Shown) *state.State {
	t.Helper()
	_, records := wal.Pick(s.Disk[0], s.Disk[1])
	folded, e := state.Replay(uint32(n), records)
	if e != api.OK {
		t.Fatalf("shard %d's disk: %d", n, e)
	}
	return folded
}

// again plays a history's lines on a cluster of its own.
func again(h *history) *history {
	twin := newHistory(h.t, h.config)
	twin.step(h.lines...)
	return twin
}

// wantSeen holds what drawn runs have met to having met each of these.
func wantSeen(t *testing.T, counts map[string]int, names ...string) {
	t.Helper()
	for _, name := range names {
		if counts[name] == 0 {
			t.Errorf("no run has met: %s (%v)", name, counts)
		}
	}
}

// meet counts the answers of a run.
func meet(counts map[string]int, r api.Result) {
	for _, e := range r.Events {
		a := e.Answer
		name := []string{"", "begin", "read", "read", "write", "write", "commit", "abort"}[a.Op.Kind] + " " + strconv.Itoa(int(a.Status))
		counts[name]++
		if a.Op.AsOf && a.Status == api.OK {
			counts["begin as of a token"]++
		}
		if a.Op.Kind == api.OpCommit && a.Status == api.OK && a.Txn != (api.Txn{}) && len(stories(r.Events)[a.Txn].writes) > 0 {
			counts["commit with a write"]++
		}
		if len(a.Pairs) > 0 {
			counts["read of something"]++
		}
	}
}

// P0.1 to P0.5, P0.10 to P0.12: drawn runs, with all that may happen in them.
func TestRunsAreWhole(t *testing.T) {
	counts := map[string]int{}
	for seed := range int64(1000) {
		d := newDice(t, seed, everything, func(c *api.Config) {
			if seed%10 == 0 {
				c.Capacity = 256 + int(seed%80)
			}
		})
		d.foreign = seed%4 == 0
		d.play(60 + d.Intn(200))
		d.h.whole()
		meet(counts, d.h.c.Result())
	}
	wantSeen(t, counts, "begin as of a token", "commit with a write", "read of something", "commit 100", "commit 141", "commit 164", "commit 90", "commit 60", "read 140", "read 90", "read 60", "write 163", "begin 40", "begin 160", "read 161", "commit 162")
}

// P0.1 to P0.5, P0.10, P0.11: the same holds at the end of every clock.
func TestRunsAtTheTop(t *testing.T) {
	counts := map[string]int{}
	for seed := range int64(400) {
		d := newDice(t, seed, everything, func(c *api.Config) {
			c.Window = []uint64{0, 3, topWall - 1, topWall}[seed%4]
		})
		d.now = topWall
		d.foreign = true
		d.play(60 + d.Intn(150))
		d.h.whole()
		meet(counts, d.h.c.Result())
	}
	wantSeen(t, counts, "begin 11", "read of something", "commit with a write", "commit 11")
}

// P0.5, P0.6, P17.9: behind every line nothing is lost; behind a crash a shard is the fold of its disk, and its clock above all that was seen.
func TestNothingIsLost(t *testing.T) {
	for seed := range int64(100) {
		d := newDice(t, seed, everything, nil)
		d.h.every = true
		d.play(80)
		r := d.h.c.Result()
		for i, line := range d.h.lines {
			behind := r
			if i+1 < len(d.h.lines) {
				behind = d.h.ahead[i+1]
			}
			d.h.oneOutcome(behind)
			d.h.oneOrder(behind)
			d.h.kept(i, behind)
			if f := strings.Split(line, " "); f[0] == "crash" {
				n, _ := strconv.Atoi(f[1])
				d.h.folded(n, behind)
			}
			if d.h.status[i] == api.ErrLine && !same(d.h.ahead[i], behind) {
				d.h.fail("P17.9: the line %d is none, and changes something", i+1)
			}
		}
	}
}

// kept holds the committed set behind a line to having all that it had ahead of it.
func (h *history) kept(i int, behind api.Result) {
	now := committed(behind)
	for _, e := range h.ahead[i].Commits {
		if now[e.Txn] != e {
			h.fail("P0.6: %v was committed ahead of line %d, and is %v behind it", e, i+1, now[e.Txn])
		}
	}
}

// folded holds a shard behind its crash to its disk.
func (h *history) folded(n int, r api.Result) {
	s := r.Shards[n]
	f := durable(h.t, n, s)
	if s.Disk != s.Written {
		h.fail("P0.6: behind a crash shard %d has bytes that are not synced", n)
	}
	if !reflect.DeepEqual(f.Held(), s.Held) || !slices.Equal(f.Entries(), s.Entries) || f.Ceiling() != s.Ceiling || f.Watermark() != s.Watermark {
		h.fail("P0.6: shard %d is not the fold of its disk", n)
	}
	if s.Parked != 0 {
		h.fail("P0.6: behind a crash %d reads are parked", s.Parked)
	}
	h.clockAbove(n, r)
}

// clockAbove holds a shard's clock to being above each stamp at which it answered a read that was answered OK, and each commit that it holds.
func (h *history) clockAbove(n int, r api.Result) {
	last := r.Shards[n].Last
	for _, e := range r.Events {
		for _, p := range route.Cut(r.Config, spanOf(e.Answer.Op)) {
			if isRead(e) && int(p.Shard) == n && !stamp.Less(e.Answer.At, last) {
				h.fail("P0.6: shard %d has served a read at %v, and its clock is at %v", n, e.Answer.At, last)
			}
		}
	}
	for _, e := range r.Shards[n].Entries {
		if e.Outcome == api.Committed && !stamp.Less(e.At, last) {
			h.fail("P0.6: shard %d holds a commit at %v, and its clock is at %v", n, e.At, last)
		}
	}
}

// crashAll plays a crash of every shard; what each keeps is told by keep.
func (h *history) crashAll(keep func() string) {
	for n := range h.c.shards {
		h.step("crash " + strconv.Itoa(n) + " " + keep() + " " + keep())
	}
}

// P0.6, P17.9: a crash of all shards that keeps nothing takes no commit away; one that keeps all takes nothing away.
func TestCrashOfAll(t *testing.T) {
	for seed := range int64(200) {
		d := newDice(t, seed, everything, nil)
		d.play(40 + d.Intn(80))
		nothing, all := again(d.h), again(d.h)
		before := d.h.c.Result()
		nothing.crashAll(func() string { return "0" })
		r := nothing.c.Result()
		if !slices.Equal(r.Commits, before.Commits) {
			nothing.fail("P0.6: committed are %v, and were %v", r.Commits, before.Commits)
		}
		all.crashAll(func() string { return "9223372036854775807" })
		for n, s := range all.c.Result().Shards {
			all.folded(n, all.c.Result())
			was := before.Shards[n]
			if !reflect.DeepEqual(s.Held, was.Held) || !slices.Equal(s.Entries, was.Entries) || s.Watermark != was.Watermark || s.Ceiling != was.Ceiling {
				all.fail("P0.6: shard %d has other things held or decided behind a crash that keeps all", n)
			}
		}
		for n := range r.Shards {
			nothing.folded(n, r)
		}
		nothing.whole()
		all.whole()
	}
}

// P0.6: where nothing is synced nothing is committed.
func TestNothingIsEarly(t *testing.T) {
	asked := 0
	for seed := range int64(300) {
		d := newDice(t, seed, without(everything, "sync", "calm", "round", "crash"), nil)
		d.play(100)
		d.h.whole()
		r := d.h.c.Result()
		if len(r.Commits) > 0 {
			d.h.fail("P0.6: committed are %v", r.Commits)
		}
		for _, s := range stories(r.Events) {
			if s.commit != nil && s.commit.Answer.Status == api.OK && len(s.writes) > 0 {
				d.h.fail("P0.6: a commit is answered OK: %+v", s.commit)
			}
		}
		for _, e := range r.Waiting {
			if e.Answer.Op.Kind == api.OpCommit {
				asked++
			}
		}
	}
	if asked == 0 {
		t.Error("no commit was asked")
	}
}

// quiet holds a cluster to having nothing that is still to come.
func (h *history) quiet(promise string) {
	r := h.c.Result()
	if len(r.Waiting) > 0 {
		h.fail("%s: %s waits still", promise, allTold(r.Waiting))
	}
	for n, s := range r.Shards {
		if len(s.Held) > 0 || s.Parked > 0 {
			h.fail("%s: shard %d holds %v, and has %d reads parked", promise, n, s.Held, s.Parked)
		}
	}
}

// laidDown holds every shard's disk to the writes of the committed transactions.
func (h *history) laidDown() {
	r := h.c.Result()
	all := stories(r.Events)
	for _, e := range r.Commits {
		for key, w := range all[e.Txn].writes {
			n := int(route.Owner(r.Config, key))
			f := durable(h.t, n, r.Shards[n])
			if stamp.Less(e.At, f.Watermark()) {
				continue
			}
			pairs, status := f.Read(api.Span{Lo: key, Hi: key + "\x00"}, e.At)
			var want []api.Pair
			if !w.Delete {
				want = []api.Pair{{Key: key, Value: w.Value}}
			}
			if status != api.OK || !slices.Equal(pairs, want) {
				h.fail("P0.7: %v has written %v; shard %d tells %v, %d", e, w, n, pairs, status)
			}
		}
	}
}

// P0.7: behind a crash of all shards and ten rounds nothing waits, and all writes of what is committed are there.
func TestItSettles(t *testing.T) {
	counts := map[string]int{}
	for seed := range int64(600) {
		d := newDice(t, seed, everything, nil)
		d.play(60 + d.Intn(150))
		if len(d.h.c.Result().Waiting) > 0 {
			counts["something waits"]++
		}
		keep := d.keep
		if seed%3 == 0 {
			keep = func() string { return "0" }
		}
		d.h.crashAll(keep)
		for range settleRounds {
			for range d.Intn(4) * d.Intn(2) {
				if d.h.c.flight.Len() > 0 {
					d.h.step("take " + d.below(d.h.c.flight.Len()))
				}
			}
			d.h.step("round " + d.pick("0", "1", "2", "7", d.below(1000), "9223372036854775807"))
		}
		d.h.quiet("P0.7")
		d.h.laidDown()
		d.h.whole()
		counts["commits"] += len(d.h.c.Result().Commits)
	}
	wantSeen(t, counts, "something waits", "commits")
}

// overBefore tells whether a transaction was committed, held nowhere and below a stamp, ahead of a line.
func (h *history) overBefore(id api.Txn, line int, start api.Stamp) bool {
	r := h.ahead[line-1]
	e, there := committed(r)[id]
	for _, s := range r.Shards {
		there = there && !slices.ContainsFunc(s.Held, func(held api.Held) bool { return held.Txn == id })
	}
	return there && stamp.Less(e.At, start)
}

// alone tells whether P0.8 says that a transaction's commit is answered OK.
func (h *history) alone(id api.Txn, all map[api.Txn]*story) bool {
	t := all[id]
	for _, s := range h.c.Result().Shards {
		if stamp.Less(t.start, s.Watermark) {
			return false
		}
	}
	for other, u := range all {
		if other == id || u.commit == nil || len(u.writes) == 0 || !meets(t, u) {
			continue
		}
		if !h.overBefore(other, t.began, t.start) && u.commit.Asked <= t.commit.Answered {
			return false
		}
	}
	return true
}

// P0.8: without losses, crashes and timers all is answered, and who meets nobody commits.
func TestWhoMeetsNobodyCommits(t *testing.T) {
	counts := map[string]int{}
	for seed := range int64(600) {
		d := newDice(t, seed, without(everything, "crash", "drop", "tick", "round", "kill"), func(c *api.Config) { c.Park = max(c.Park, c.Clients) })
		d.play(60 + d.Intn(150))
		d.h.step(slices.Repeat([]string{"calm 0"}, 8)...)
		d.h.quiet("P0.8")
		d.h.whole()
		all := stories(d.h.c.Result().Events)
		for id, s := range all {
			if s.commit == nil || len(s.writes) == 0 {
				continue
			}
			if !d.h.alone(id, all) {
				counts["met somebody"]++
				continue
			}
			counts["met nobody"]++
			if s.commit.Answer.Status != api.OK {
				d.h.fail("P0.8: %v meets nobody, and its commit is answered %d", id, s.commit.Answer.Status)
			}
		}
	}
	wantSeen(t, counts, "met somebody", "met nobody")
}

// P0.13: a reader waits for nothing that is above it.
func TestReadersDoNotWait(t *testing.T) {
	counts := map[string]int{}
	for seed := range int64(1000) {
		d := newDice(t, seed, everything, nil)
		d.play(40 + d.Intn(150))
		client := strconv.Itoa(len(d.h.c.shards) + d.Intn(len(d.h.c.clients)))
		d.h.step("kill "+client, "begin "+client+" ro %")
		r := d.h.c.Result()
		start := r.Events[len(r.Events)-1].Answer.At
		free, held := true, false
		for _, s := range r.Shards {
			free = free && !stamp.Less(s.Last, start) && !stamp.Less(start, s.Watermark)
			for _, one := range s.Held {
				free = free && stamp.Less(start, one.At)
				held = true
			}
		}
		d.h.step("scan "+client+" % % 0", "calm 0", "calm 0")
		d.h.whole()
		if !free {
			continue
		}
		counts["free"]++
		if held {
			counts["free, and something is held"]++
		}
		asked := len(d.h.lines) - 2
		if !slices.ContainsFunc(d.h.c.Result().Events, func(e api.Event) bool { return e.Asked == asked && e.Answer.Status == api.OK }) {
			d.h.fail("P0.13: the scan at %v is not answered OK", start)
		}
	}
	wantSeen(t, counts, "free", "free, and something is held")
}

// P0.14: what no read sees any more is gone.
func TestOldVersionsGo(t *testing.T) {
	counts := map[string]int{}
	for seed := range int64(400) {
		d := newDice(t, seed, everything, nil)
		d.play(60 + d.Intn(150))
		n := d.Intn(len(d.h.c.shards))
		before := d.h.c.shards[n]
		w := api.Stamp{Wall: before.Watermark().Wall + uint64(d.Intn(20)), Logical: before.Watermark().Logical + 1}
		d.h.step("mark "+strconv.Itoa(n)+" "+stamp.Text(w), "sync "+strconv.Itoa(n))
		f := durable(t, n, d.h.c.Result().Shards[n])
		if f.Watermark() != w {
			d.h.fail("P0.14: the watermark is %v, want %v", f.Watermark(), w)
		}
		old := map[string]int{}
		for _, v := range f.Versions() {
			if stamp.Less(w, v.At) {
				counts["above"]++
				continue
			}
			counts["below"]++
			old[v.Key]++
			if v.Delete || old[v.Key] > 1 {
				d.h.fail("P0.14: shard %d has %v", n, f.Versions())
			}
		}
		d.h.whole()
	}
	wantSeen(t, counts, "above", "below")
}

// scribble spoils a text in a few places.
func scribble(r *rand.Rand, text string) string {
	b := []byte(text)
	for range r.Intn(4) {
		i := r.Intn(len(b) + 1)
		switch r.Intn(3) {
		case 0:
			b = slices.Insert(b, i, byte(r.Intn(256)))
		case 1:
			b = slices.Delete(b, min(i, len(b)), min(i+1+r.Intn(3), len(b)))
		default:
			b = slices.Insert(b, i, []byte(" 0123456789@%\nabm")[r.Intn(17)])
		}
	}
	return string(b)
}

// P0.9, P17.10: any two texts.
func TestAnyTexts(t *testing.T) {
	counts := map[string]int{}
	for seed := range int64(400) {
		d := newDice(t, seed, everything, nil)
		d.play(40)
		config := d.h.config
		if seed%4 == 0 {
			config = scribble(d.Rand, config)
		}
		lines := slices.Clone(d.h.lines)
		for i := range lines {
			if d.Intn(3) == 0 {
				lines[i] = scribble(d.Rand, lines[i])
			}
		}
		text := strings.Join(lines, "\n")
		r := Run(config, text)
		_, want := route.Parse(config)
		if r.Status != want {
			t.Errorf("Run of %q tells %d, want %d", config, r.Status, want)
		}
		if want != api.OK {
			counts["refused"]++
			continue
		}
		h := newHistory(t, config)
		h.step(strings.Split(text, "\n")...)
		wantSame(t, "Run", r, h.c.Result())
		h.whole()
		good := newHistory(t, config) // what is none is passed over: an empty line in its place does the same
		for i, line := range h.lines {
			if h.status[i] == api.ErrLine {
				counts["passed over"]++
				line = ""
			}
			good.step(line)
		}
		wantSame(t, "without the lines that are none", good.c.Result(), r)
	}
	wantSeen(t, counts, "refused", "passed over")
	for _, text := range []string{"", "\x00", strings.Repeat("\n", 1000), strings.Repeat("x", 100000), token.Encode(at(1, 2, 3))} {
		Run(text, text)
		Run(two, text)
	}
}

// P17.2, P17.10: disks of any records, and any lines on them.
func TestAnyDisks(t *testing.T) {
	counts := map[string]int{}
	for seed := range int64(300) {
		d := newDice(t, seed, everything, nil)
		disks := make([]string, len(d.h.c.shards))
		for i := range disks {
			disks[i] = d.drawLog(t)
			if d.Intn(3) == 0 {
				disks[i] = scribble(d.Rand, disks[i])
			}
		}
		c, e := StartOn(d.h.config, disks)
		if e != api.OK {
			counts["refused"]++
			continue
		}
		counts["up"]++
		d.h.c = c
		for range 60 {
			d.play(1)
			if f := strings.Split(d.h.lines[len(d.h.lines)-1], " "); f[0] == "crash" {
				n, _ := strconv.Atoi(f[1])
				s := c.Result().Shards[n]
				if got := durable(t, n, s); !reflect.DeepEqual(got.Held(), s.Held) || !slices.Equal(got.Entries(), s.Entries) || got.Ceiling() != s.Ceiling {
					d.h.fail("seed %d: shard %d is not the fold of its disk", seed, n)
				}
			}
		}
		d.h.modest(c.Result())
	}
	wantSeen(t, counts, "refused", "up")
}

// drawLog gives a log of drawn records, most of which can follow one another.
func (d *dice) drawLog(t *testing.T) string {
	records := []api.Record{{Kind: api.RecReserve, Wall: 50}}
	for n := range d.Intn(6) {
		id := api.Txn{Client: uint32(d.Intn(9)), Seq: uint32(1 + d.Intn(3))}
		home, when := uint32(d.Intn(9)), at(uint64(5+n*5+d.Intn(3)), 0, uint32(d.Intn(3)))
		r := api.Record{Kind: api.RecPrepare, Txn: id, Home: home, At: when, Writes: []api.Write{{Key: d.pick(d.keys...), Value: "x"}}}
		records = append(records, r)
		if d.Intn(3) > 0 {
			records = append(records, api.Record{Kind: api.RecDecide, Txn: id, Home: home, Outcome: api.Committed, At: when})
		}
		if d.Intn(6) == 0 {
			records = append(records, api.Record{Kind: api.RecMark, At: when})
		}
	}
	return logOf(t, records...)
}
