package backup

import (
	"slices"
	"strconv"
	"testing"

	"tidemark/api"
	"tidemark/audit"
	"tidemark/cluster"
	"tidemark/feed"
	"tidemark/route"
	"tidemark/stamp"
)

// line draws a line for a cluster with so many shards and three clients.
func (d dice) line(shards int) string {
	client, shard := " "+strconv.Itoa(shards+d.Intn(3)), " "+d.below(shards)
	key := " " + d.pick("a", "b", "m", "z")
	switch d.Intn(24) {
	case 0, 1:
		return "begin" + client + " " + d.pick("rw", "rw", "rw", "ro", "at") + " " + d.pick("%", "@"+strconv.Itoa(shards), "@"+strconv.Itoa(shards+1))
	case 2:
		return "get" + client + key
	case 3:
		return d.pick("scan", "rscan") + client + " % " + d.pick("%", "m", "z") + " 0"
	case 4, 5, 6:
		return "put" + client + key + " " + d.pick("%", d.below(100))
	case 7:
		return "del" + client + key
	case 8, 9, 10:
		return "commit" + client
	case 11:
		return d.pick("abort", "kill", "tick", "tick") + client
	case 12:
		return d.pick("tick", "tick", "save") + shard
	case 13:
		return "wall " + d.below(shards+3) + " " + d.below(40)
	case 14:
		return d.pick("drop 0", "copy 0", "round 1", "mark"+shard+" "+stamp.Text(at(uint64(d.Intn(8)), 0, 0)))
	case 15:
		return "crash" + shard + " " + d.keep() + " " + d.keep()
	case 16, 17:
		return "sync" + shard
	case 18, 19, 20, 21:
		return "take " + d.below(3)
	}
	return "calm " + d.below(3)
}

func (d dice) keep() string { return d.pick("0", d.below(200), "9223372036854775807") }

// bout draws the lines of a transaction that is asked without a stop, over all shards.
func (d dice) bout(shards int) []string {
	client := " " + strconv.Itoa(shards+d.Intn(3))
	list := []string{"kill" + client, "begin" + client + " rw %", "scan" + client + " % % 0", "calm 0", "calm 0"}
	for _, key := range []string{"a", "b", "m", "z"} {
		switch d.Intn(5) {
		case 0, 1:
			list = append(list, "put"+client+" "+key+" "+d.below(100))
		case 2:
			list = append(list, "del"+client+" "+key)
		}
	}
	return append(list, "commit"+client)
}

// onward draws the lines of a scan that brings the clocks of all shards on.
func (d dice) onward(shards int) []string {
	client := " " + strconv.Itoa(shards+d.Intn(3))
	return []string{"kill" + client, "wall" + client + " " + d.below(60), "begin" + client + " ro %", "scan" + client + " % % 0", "calm 0", "calm 0"}
}

func (d dice) script(lines, shards int) []string {
	var list []string
	for len(list) < lines {
		switch d.Intn(24) {
		case 0, 1:
			list = append(list, d.bout(shards)...)
		case 2:
			list = append(list, d.onward(shards)...)
		}
		list = append(list, d.line(shards))
	}
	return list
}

// near draws a stamp that is one of a result's, or close to one.
func (d dice) near(r api.Result) api.Stamp {
	list := []api.Stamp{feed.Bound(r), at(uint64(d.Intn(60)), 0, 0)}
	for _, e := range r.Commits {
		list = append(list, e.At)
	}
	for _, s := range r.Shards {
		list = append(list, s.Watermark)
	}
	s := list[d.Intn(len(list))]
	switch {
	case d.Intn(3) == 0:
		s.Node++
	case d.Intn(3) == 0 && s.Node > 0:
		s.Node--
	case d.Intn(3) == 0 && s.Logical > 0:
		s.Logical--
	}
	return s
}

// P20.4: of a cluster that began empty a backup is the state at its stamp, and it stays so.
func TestRuns(t *testing.T) {
	seen := map[string]int{}
	for seed := range int64(250) {
		d := newDice(seed)
		shards := 1 + d.Intn(3)
		config := "shards " + strconv.Itoa(shards) + "\nclients 3\ncapacity " + d.pick("1048576", "1048576", strconv.Itoa(300+d.Intn(1500))) + "\npark " + d.below(5) + "\nwindow " + d.pick("0", "3", "10", "100")
		for _, split := range []string{"b", "m"}[:shards-1] {
			config += "\nsplit " + split
		}
		c, _ := cluster.Start(config)
		taken := map[api.Stamp]string{}
		var stamps []api.Stamp
		for place, line := range d.script(80+d.Intn(120), shards) {
			c.Step(line)
			if d.Intn(4) > 0 {
				continue
			}
			r := c.Result()
			for range 3 {
				s := d.near(r)
				text, e := Take(r, s)
				seen[strconv.Itoa(int(e))]++
				if e != api.OK {
					continue
				}
				want := audit.State(r, api.Span{}, s)
				if got, pairs, e := Read(text); got != s || !slices.Equal(pairs, want) || e != api.OK {
					t.Fatalf("seed %d, line %d: the backup at %v has %v, %q, %d; the state is %q", seed, place, s, got, pairs, e, want)
				}
				seen["pairs"] += min(len(want), 1)
				if taken[s] == "" {
					taken[s] = text
					stamps = append(stamps, s)
				}
			}
			for range min(len(stamps), 3) {
				s := stamps[d.Intn(len(stamps))]
				text, e := Take(r, s)
				if e == api.ErrOld {
					seen["gone"]++
				} else if e != api.OK || text != taken[s] {
					t.Fatalf("seed %d, line %d: the backup at %v is %q, %d, and was %q", seed, place, s, text, e, taken[s])
				}
			}
		}
	}
	wantSeen(t, seen, "0", "90", "201", "pairs", "gone")
}

// keeps plays lines on a cluster that was restored; none of them commits anything.
func keeps(t *testing.T, c *cluster.Cluster, lines ...string) api.Result {
	t.Helper()
	for _, line := range lines {
		if e := c.Step(line); e != api.OK {
			t.Fatalf("%s: %d", line, e)
		}
	}
	return c.Result()
}

// startOn brings a cluster up on what was restored.
func startOn(t *testing.T, c api.Config, text string) *cluster.Cluster {
	t.Helper()
	disks, e := Restore(c, text)
	if e != api.OK {
		t.Fatalf("Restore: %d", e)
	}
	config, _ := route.Text(c)
	up, e := cluster.StartOn(config, disks)
	if e != api.OK {
		t.Fatalf("StartOn: %d", e)
	}
	return up
}

// P20.6: a backup of what was restored has the same pairs, whatever the configuration, at the same stamp and later, behind crashes and checkpoints too.
func TestBackupsOfWhatWasRestored(t *testing.T) {
	seen := map[string]int{}
	for seed := range int64(300) {
		d := newDice(seed)
		s, pairs := d.usable(), d.pairs(60)
		text := modelText(s, pairs)
		for range 3 {
			c := d.config()
			up := startOn(t, c, text)
			r := up.Result()
			if again, e := Take(r, s); again != text || e != api.OK {
				t.Fatalf("seed %d: the backup at %v is %q, %d, and was %q", seed, s, again, e, text)
			}
			if s.Wall > 0 {
				if _, none, e := Read(mustTake(t, r, at(s.Wall-1, topSmall, topSmall))); len(none) != 0 || e != api.OK {
					t.Fatalf("seed %d: ahead of %v there is %q, %d", seed, s, none, e)
				}
			}
			if s.Wall > topWall-100 {
				seen["at the end"]++
				continue
			}
			client := strconv.Itoa(c.Shards)
			lines := []string{"wall " + client + " " + strconv.FormatUint(s.Wall+5, 10), "begin " + client + " ro %", "scan " + client + " % % 0", "calm 0", "calm 0"}
			for shard := range c.Shards {
				lines = append(lines, d.pick("save ", "save ", "sync ")+strconv.Itoa(shard), d.pick("sync "+strconv.Itoa(shard), "crash "+strconv.Itoa(shard)+" 0 0", "crash "+strconv.Itoa(shard)+" 9999999 9999999"))
			}
			r = keeps(t, up, lines...)
			s.Wall += 4
			text = mustTake(t, r, s)
			if text != modelText(s, pairs) {
				t.Fatalf("seed %d: the backup at %v is %q, want %q", seed, s, text, pairs)
			}
			seen["later"]++
		}
	}
	wantSeen(t, seen, "later", "at the end")
}

func mustTake(t *testing.T, r api.Result, s api.Stamp) string {
	t.Helper()
	text, e := Take(r, s)
	if e != api.OK {
		t.Fatalf("Take at %v: %d", s, e)
	}
	return text
}

// P20.6: what is restored reads as the backup and takes commits, above its stamp.
func TestARestoredClusterGoesOn(t *testing.T) {
	c, _ := route.Parse(pair)
	up := startOn(t, c, modelText(at(5, 3, 2), pairsOf("a=1", "m=2", "z=3")))
	if r := up.Result(); len(r.Commits) != 2 || r.Commits[0] != (api.Entry{Txn: txn(topSmall, 1), Outcome: api.Committed, At: at(5, 3, 2)}) || r.Commits[1] != (api.Entry{Txn: txn(topSmall, 1), Home: 1, Outcome: api.Committed, At: at(5, 3, 2)}) {
		t.Errorf("it begins with the commits %v", r.Commits)
	}
	r := keeps(t, up, "wall 2 5", "wall 3 6", "begin 2 ro %", "scan 2 % % 0", "begin 3 rw %", "scan 3 % % 0", "calm 0", "calm 0", "put 3 a 4", "del 3 m", "commit 3", "calm 0", "calm 0", "calm 0", "calm 0", "calm 0", "wall 2 9", "commit 2", "begin 2 ro %", "scan 2 % % 0", "calm 0", "calm 0")
	scans := map[uint64][]api.Pair{}
	for _, e := range r.Events {
		if e.Answer.Status != api.OK {
			t.Errorf("%+v", e)
		}
		if e.Answer.Op.Kind == api.OpScan {
			scans[e.Answer.At.Wall] = e.Answer.Pairs
		}
	}
	if !slices.Equal(scans[6], pairsOf("a=1", "m=2", "z=3")) || len(scans[5]) != 0 || !slices.Equal(scans[9], pairsOf("a=4", "z=3")) {
		t.Errorf("the scans are %v", scans)
	}
	commit := r.Commits[len(r.Commits)-1]
	if !stamp.Less(at(5, 3, 2), commit.At) || commit.Txn != txn(3, 1) {
		t.Errorf("the commit is %v", commit)
	}
	wantTake(t, "at the backup's stamp", r, at(5, 3, 2), "a=1", "m=2", "z=3")
	wantTake(t, "below it", r, at(5, 3, 1))
	wantTake(t, "above it", r, at(6, 0, 0), "a=1", "m=2", "z=3")
	wantTake(t, "at the commit", r, commit.At, "a=4", "z=3")
}

// P20.6: behind the last wall number no clock ticks.
func TestARestoredClusterAtTheEnd(t *testing.T) {
	c, _ := route.Parse(pair)
	text := modelText(at(topWall-1, 7, 0), pairsOf("a=1", "z=2"))
	up := startOn(t, c, text)
	r := keeps(t, up, "begin 2 rw %", "put 2 a 2", "commit 2", "calm 0", "calm 0", "calm 0", "calm 0")
	if last := r.Events[len(r.Events)-1].Answer; last.Op.Kind != api.OpCommit || last.Status != api.ErrExhausted {
		t.Errorf("the commit is answered %+v", last)
	}
	if again := mustTake(t, r, at(topWall-1, 7, 0)); again != text {
		t.Errorf("the backup is %q, and was %q", again, text)
	}
}
