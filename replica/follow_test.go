package replica

import (
	"strings"
	"testing"

	"tidemark/api"
	"tidemark/cluster"
	"tidemark/disk"
	"tidemark/feed"
	"tidemark/wal"
)

const pair = "shards 2\nclients 2\ncapacity 65536\npark 4\nwindow 10\nsplit m"

func started(t *testing.T) *cluster.Cluster {
	t.Helper()
	c, e := cluster.Start(pair)
	if e != api.OK {
		t.Fatalf("Start: %d", e)
	}
	return c
}

// plays does lines, told with " | " between two, and gives what there is then.
func plays(t *testing.T, c *cluster.Cluster, lines string) api.Result {
	t.Helper()
	for _, line := range strings.Split(lines, " | ") {
		if e := c.Step(line); e != api.OK {
			t.Fatalf("%s: %d", line, e)
		}
	}
	return c.Result()
}

func wantFollow(t *testing.T, what string, p *Replica, r api.Result, n int, want api.Errno) {
	t.Helper()
	if got, e := p.Follow(r); got != n || e != want {
		t.Errorf("%s: Follow: %d, %d, want %d, %d", what, got, e, n, want)
	}
}

// P23.5: a cluster is followed as far as it is closed, each change once.
func TestFollow(t *testing.T) {
	c, p := started(t), New()
	wantFollow(t, "nothing is there", p, c.Result(), 0, api.OK)
	r := plays(t, c, "begin 2 rw % | put 2 a 1 | put 2 z 1 | commit 2 | calm 0 | calm 0 | calm 0 | calm 0 | calm 0")
	wantFollow(t, "the clocks stand at the commit", p, r, 0, api.OK)
	commit := r.Commits[0].At
	wantStands(t, "the clocks stand at the commit", p, at(0, 0, 0), commit, 0)

	r = plays(t, c, "wall 3 9 | begin 3 ro % | scan 3 % % 0 | calm 0 | calm 0 | commit 3")
	wantFollow(t, "the clocks have gone on", p, r, 2, api.OK)
	wantStands(t, "the clocks have gone on", p, at(0, 0, 0), at(9, 0, 3), 2)
	wantReads(t, p, at(9, 0, 2), api.Span{}, "a=1", "z=1")
	wantReads(t, p, at(0, 0, 0), api.Span{})
	wantFollow(t, "the same again", p, r, 0, api.OK)
	wantFollow(t, "an earlier one", p, cluster.Run(pair, ""), 0, api.OK)
	wantStands(t, "behind them", p, at(0, 0, 0), at(9, 0, 3), 2)

	r = plays(t, c, "begin 2 rw @2 | put 2 a 2 | del 2 z | commit 2 | calm 0 | calm 0 | calm 0 | calm 0 | calm 0 | wall 3 20 | begin 3 ro % | scan 3 % % 0 | calm 0 | calm 0 | commit 3")
	wantFollow(t, "a put and a deletion", p, r, 2, api.OK)
	wantReads(t, p, at(19, 0, 0), api.Span{}, "a=2")
	r = plays(t, c, "wall 3 30 | begin 3 ro % | scan 3 % % 0 | calm 0 | calm 0")
	wantFollow(t, "the bound alone rises", p, r, 0, api.OK)
	wantStands(t, "the bound alone rises", p, at(0, 0, 0), at(30, 0, 3), 4)
}

// P23.5: one that was loaded follows from behind its backup's stamp.
func TestALoadedReplicaFollows(t *testing.T) {
	r := plays(t, started(t), "begin 2 rw % | put 2 a 1 | put 2 z 1 | commit 2 | calm 0 | calm 0 | calm 0 | calm 0 | calm 0 | wall 3 9 | begin 3 ro % | scan 3 % % 0 | calm 0 | calm 0")
	commit := r.Commits[0].At
	before := commit
	before.Node-- // the commit's is a shard's: 0.2.1
	p := loaded(t, backupOf(t, before))
	wantFollow(t, "a backup just below the commit", p, r, 2, api.OK)
	wantReads(t, p, before, api.Span{})
	wantReads(t, p, commit, api.Span{}, "a=1", "z=1")
	p = loaded(t, backupOf(t, commit, "a=1", "z=1"))
	wantFollow(t, "a backup at the commit", p, r, 0, api.OK)
	wantStands(t, "a backup at the commit", p, commit, at(9, 0, 3), 2)
	p = loaded(t, backupOf(t, at(9, 0, 2), "a=1", "z=1"))
	wantFollow(t, "a backup just below the bound", p, r, 0, api.OK)
	wantStands(t, "a backup just below the bound", p, at(9, 0, 2), at(9, 0, 3), 2)
	p = loaded(t, backupOf(t, at(20, 0, 0), "b=1"))
	wantFollow(t, "a backup of what is later", p, r, 0, api.OK)
	wantStands(t, "a backup of what is later", p, at(20, 0, 0), at(20, 0, 1), 1)
}

// lone is the result of one shard whose clock and ceiling are at and above a stamp, and of nothing else: what a test adds has no other bound.
func lone(t *testing.T, last api.Stamp) api.Result {
	t.Helper()
	d := disk.New(api.MaxCapacity)
	log, _, _ := wal.Open(d)
	if e := log.Append(api.Record{Kind: api.RecReserve, Wall: topWall}); e != api.OK {
		t.Fatalf("no ceiling: %d", e)
	}
	log.Sync()
	return api.Result{Shards: []api.Shown{{Disk: [api.Slots]string{d.Bytes(0), d.Bytes(1)}, Last: last}}}
}

// wrote adds a transaction that wrote at a stamp: "k=v", or "k" for a deletion.
func wrote(r *api.Result, s api.Stamp, told ...string) {
	txn := api.Txn{Client: 2, Seq: uint32(len(r.Commits)) + 1}
	for _, text := range told {
		op := api.Op{Kind: api.OpDelete}
		if key, value, put := strings.Cut(text, "="); put {
			op = api.Op{Kind: api.OpPut, Key: key, Value: value}
		} else {
			op.Key = key
		}
		r.Events = append(r.Events, api.Event{Answer: api.Answer{Client: 2, Txn: txn, Op: op}})
	}
	r.Commits = append(r.Commits, api.Entry{Txn: txn, Outcome: api.Committed, At: s})
}

// P23.5: of results that no cluster shows, what Feed says of their changes: an error, no count, and nothing is taken.
func TestFollowOfAnyResult(t *testing.T) {
	long := strings.Repeat("k", maxKey+1)
	for _, c := range []struct {
		name string
		made func(r *api.Result)
		n    int
		want api.Errno
	}{
		{"no commit", func(r *api.Result) {}, 0, api.OK},
		{"one of nothing", func(r *api.Result) { wrote(r, at(9, 0, 0)) }, 0, api.OK},
		{"at the replica's bound", func(r *api.Result) { wrote(r, at(9, 0, 0), "a=9", "b", "x=1") }, 3, api.OK},
		{"below it, told before", func(r *api.Result) { wrote(r, at(8, 9, 9), "", "a") }, 0, api.OK},
		{"at the new bound", func(r *api.Result) { wrote(r, at(20, 0, 0), "", "a") }, 0, api.OK},
		{"just below it", func(r *api.Result) { wrote(r, at(19, topSmall, topSmall), "a") }, 1, api.OK},
		{"not in their order", func(r *api.Result) { wrote(r, at(11, 0, 0), "a=2"); wrote(r, at(10, 0, 0), "a=1", "b=1") }, 3, api.OK},
		{"two at one stamp, keys rising", func(r *api.Result) { wrote(r, at(10, 0, 0), "a=2"); wrote(r, at(10, 0, 0), "b=1", "c") }, 3, api.OK},
		{"two at one stamp, one key", func(r *api.Result) { wrote(r, at(10, 0, 0), "a=2", "b=1"); wrote(r, at(10, 0, 0), "b=1") }, 0, api.ErrOrder},
		{"two at one stamp, keys falling", func(r *api.Result) { wrote(r, at(10, 0, 0), "b=1"); wrote(r, at(10, 0, 0), "a=1") }, 0, api.ErrOrder},
		{"an empty key", func(r *api.Result) { wrote(r, at(9, 0, 0), "a=9"); wrote(r, at(10, 0, 0), "=1", "b=1") }, 0, api.ErrArg},
		{"a long key", func(r *api.Result) { wrote(r, at(9, 0, 0), "a=9"); wrote(r, at(10, 0, 0), "b=1", long+"=1") }, 0, api.ErrArg},
		{"a long value", func(r *api.Result) { wrote(r, at(10, 0, 0), "b="+strings.Repeat("v", maxValue+1)) }, 0, api.ErrArg},
		{"more keys than a transaction writes", func(r *api.Result) { wrote(r, at(10, 0, 0), strings.Split("abcdefghijklmnopqrstuvwxyz", "")...) }, 26, api.OK},
	} {
		r := lone(t, at(20, 0, 0))
		c.made(&r)
		if feed.Bound(r) != at(20, 0, 0) {
			t.Fatalf("%s: the bound is %v", c.name, feed.Bound(r))
		}
		p := grown(t)
		wantFollow(t, c.name, p, r, c.n, c.want)
		if c.want == api.OK {
			wantStands(t, c.name, p, at(5, 0, 2), at(20, 0, 0), 5+c.n)
			continue
		}
		wantStands(t, c.name, p, at(5, 0, 2), at(9, 0, 0), 5)
		wantReads(t, p, at(8, 0, 0), api.Span{}, "b=", "c=1")
		wantFollow(t, c.name+", and then one without fault", p, lone(t, at(21, 0, 0)), 0, api.OK)
		wantStands(t, c.name+", and then one without fault", p, at(5, 0, 2), at(21, 0, 0), 5)
	}
}

// P23.5: a result whose bound is not above the replica's is not looked at.
func TestFollowOfWhatIsNotNew(t *testing.T) {
	for _, last := range []api.Stamp{{}, at(8, 9, 9), at(9, 0, 0)} {
		r := lone(t, last)
		wrote(&r, at(9, 0, 0), "=1")
		wrote(&r, at(3, 0, 0), "a=1", "b=2")
		p := grown(t)
		wantFollow(t, "not new", p, r, 0, api.OK)
		wantStands(t, "not new", p, at(5, 0, 2), at(9, 0, 0), 5)
	}
	p := grown(t)
	wantFollow(t, "no shard", p, api.Result{}, 0, api.OK)
	wantStands(t, "no shard", p, at(5, 0, 2), at(9, 0, 0), 5)
}

// P23.5: up to the last wall number.
func TestFollowToTheTop(t *testing.T) {
	r := lone(t, at(topWall, 5, 0))
	wrote(&r, at(topWall-1, topSmall, topSmall), "a=1")
	wrote(&r, at(topWall, 0, 0), "a=2")
	p := New()
	wantFollow(t, "the top", p, r, 1, api.OK)
	wantStands(t, "the top", p, at(0, 0, 0), at(topWall, 0, 0), 1)
	wantSaves(t, p, at(topWall-1, topSmall, topSmall), "a=1")
}
