package inspect

import (
	"slices"
	"testing"

	"tidemark/api"
	"tidemark/cluster"
)

// promise is an outcome that Fate told of a shard.
type promise struct {
	shard int
	api.Entry
}

// run is a cluster that goes through a script, with what was told of it on the way.
type run struct {
	*testing.T
	seed     int64
	promises map[promise]int // and the lines behind which they were told first
	seen     map[string]int
}

// looks holds a result to P24.6, and to what was told of earlier ones (P24.7).
func (x *run) looks(r api.Result, line int) {
	if e, id := Doctor(r); e != api.OK || id != (api.Txn{}) {
		x.Fatalf("seed %d, line %d: Doctor tells %d, %v", x.seed, line, e, id)
	}
	for shard := range r.Shards {
		for _, e := range Fate(r, shard) {
			if e.Outcome == api.Unknown {
				x.seen["unknown"]++
			} else if _, told := x.promises[promise{shard, e}]; !told {
				x.promises[promise{shard, e}] = line
			}
		}
	}
	for p, told := range x.promises {
		x.keeps(r, p, told, line)
	}
}

// keeps holds a result to a promise.
func (x *run) keeps(r api.Result, p promise, told, line int) {
	own := keptBy(r, p.shard)
	_, holds := own.Get(p.Txn)
	if _, has := own.Outcome(p.Txn); !holds && !has {
		x.Fatalf("seed %d: of shard %d there was told %+v behind line %d; behind line %d it knows nothing", x.seed, p.shard, p.Entry, told, line)
	} else if has {
		x.seen[[]string{"", "came to commit", "came to abort"}[p.Outcome]]++
	} else {
		x.seen[[]string{"", "holds, committed", "holds, aborted"}[p.Outcome]]++
	}
	for place := range r.Shards {
		if e, has := keptBy(r, place).Outcome(p.Txn); has && (e.Outcome != p.Outcome || e.At != p.At) {
			x.Fatalf("seed %d: of shard %d there was told %+v behind line %d; behind line %d shard %d says %+v", x.seed, p.shard, p.Entry, told, line, place, e)
		}
	}
	if in := slices.ContainsFunc(r.Commits, func(e api.Entry) bool { return e.Txn == p.Txn && e.At == p.At }); in != (p.Outcome == api.Committed) {
		x.Fatalf("seed %d: of shard %d there was told %+v behind line %d; behind line %d there are committed %+v", x.seed, p.shard, p.Entry, told, line, r.Commits)
	}
}

// P24.6, P24.7: drawn scripts, with crashes, messages that are lost or come twice, clients that are killed, clocks that end and disks that are full.
func TestRuns(t *testing.T) {
	seen := map[string]int{}
	for seed := range int64(300) {
		d := newDice(seed)
		config, shards := d.config()
		c, e := cluster.Start(config)
		if e != api.OK {
			t.Fatalf("seed %d: Start: %d", seed, e)
		}
		x := &run{T: t, seed: seed, promises: map[promise]int{}, seen: seen}
		script := d.script(60+d.Intn(140), shards)
		for i, line := range script {
			c.Step(line)
			if d.Intn(4) == 0 || i == len(script)-1 {
				r := c.Result()
				seen["committed"] += min(len(r.Commits), 1)
				x.looks(r, i+1)
			}
		}
	}
	wantSeen(t, seen, "committed", "unknown", "came to commit", "came to abort", "holds, committed", "holds, aborted")
}

// P24.6: every result on the way of DOC.md's examples, line by line.
func TestDoctorOfEachLine(t *testing.T) {
	for _, script := range [][]string{
		{"begin 2 rw %", "put 2 a 1", "put 2 z 1", "commit 2", "calm 0", "calm 0", "calm 0", "calm 0", "calm 0", "kill 2"},
		{"begin 2 rw %", "put 2 a 1", "put 2 z 1", "commit 2", "calm 0", "calm 0", "crash 0 0 0", "tick 0", "calm 0", "calm 0", "calm 0"},
		{"begin 2 rw %", "put 2 a 1", "put 2 z 1", "commit 2", "calm 0", "crash 0 0 0", "tick 1", "calm 0", "calm 0", "save 1", "sync 1", "crash 1 0 0"},
	} {
		c, _ := cluster.Start(two)
		x := &run{T: t, promises: map[promise]int{}, seen: map[string]int{}}
		for i, line := range script {
			if e := c.Step(line); e != api.OK {
				t.Fatalf("%q: %d", line, e)
			}
			x.looks(c.Result(), i+1)
		}
		if len(x.seen) == 0 {
			t.Errorf("nothing was told of %q", script)
		}
	}
}
