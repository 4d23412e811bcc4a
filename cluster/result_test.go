package cluster

import (
	"slices"
	"testing"

	"tidemark/api"
)

// P17.7: the configuration is what the text said.
func TestResultConfig(t *testing.T) {
	r := Run("# one\nwindow 18446744073709551615\npark 16\ncapacity 1048576\nclients 6\nshards 3\nsplit %00\nsplit %ff%20", "")
	c := r.Config
	if c.Shards != 3 || c.Clients != 6 || c.Capacity != capacity || c.Park != maxPark || c.Window != topWall || !slices.Equal(c.Splits, []string{"\x00", "\xff "}) {
		t.Errorf("%+v", c)
	}
	wantNumber(t, "shards", len(r.Shards), 3)
}

// P17.7: steps are the lines that were answered OK.
func TestResultSteps(t *testing.T) {
	c := started(t, "wall 0 1 | get 2 a")
	for line, e := range map[string]api.Errno{"none": api.ErrLine, "take 0": api.ErrLine, "mark 0 0.0.0": api.ErrOld, "mark 1 18446744073709551615.0.0": api.ErrExhausted} {
		if got := c.Step(line); got != e {
			t.Errorf("%q: %d", line, got)
		}
	}
	wantNumber(t, "steps", c.Result().Steps, 2)
}

// P17.7: what waits is told by client, with nothing but what is known of it.
func TestResultWaiting(t *testing.T) {
	c := started(t, "wall 3 9 | begin 3 rw % | scan 3 b%20 % 3 | begin 2 rw % | put 2 a 1 | commit 2")
	want := []api.Event{
		{Asked: 6, Answer: api.Answer{Client: 2, Txn: txn(2, 1), Op: api.Op{Kind: api.OpCommit}, At: at(0, 1, 2)}},
		{Asked: 3, Answer: api.Answer{Client: 3, Txn: txn(3, 1), Op: api.Op{Kind: api.OpScan, Key: "b ", Limit: 3}, At: at(9, 0, 3)}},
	}
	wantSame(t, "waiting", api.Result{Waiting: c.Result().Waiting}, api.Result{Waiting: want})
	play(t, c, "calm | calm | calm | calm")
	wantWaiting(t, "all is answered", c.Result(), "")
}

// P17.7: the synced bytes alone say what is committed, not what the shard knows.
func TestCommitsAreSynced(t *testing.T) {
	c := started(t, across+" | calm | calm | take 0")
	r := c.Result()
	wantNumber(t, "the home knows it", len(r.Shards[0].Entries), 1)
	wantCommits(t, "ahead of the sync", r)
	play(t, c, "sync 1")
	wantCommits(t, "behind another shard's sync", c.Result())
	play(t, c, "sync 0")
	wantCommits(t, "behind the sync", c.Result(), "2/1 0.2.1")
	wantNumber(t, "the home", int(c.Result().Commits[0].Home), 0)
	play(t, c, "calm | calm")
	r = c.Result()
	wantNumber(t, "the other one knows it", len(r.Shards[1].Entries), 1)
	wantCommits(t, "it is told once", r, "2/1 0.2.1")
}

// P17.7: behind a checkpoint the image stands for the commit record, once it is synced; ahead of that the earlier generation does.
func TestCommitsBehindACheckpoint(t *testing.T) {
	c := started(t, done+" | save 0")
	r := c.Result()
	wantCommits(t, "a checkpoint that is not synced", r, "2/1 0.2.0")
	if s := r.Shards[0]; s.Disk[1] != "" || s.Written[1] == "" || s.Disk[0] == "" {
		t.Errorf("a checkpoint that is not synced: %d and %d bytes are synced", len(s.Disk[0]), len(s.Disk[1]))
	}
	play(t, c, "begin 3 rw % | put 3 b 1 | commit 3 | take 0")
	wantCommits(t, "records behind it", c.Result(), "2/1 0.2.0")
	play(t, c, "sync 0")
	r = c.Result()
	wantCommits(t, "a checkpoint that is synced", r, "2/1 0.2.0")
	if s := r.Shards[0]; s.Disk[0] != "" || s.Disk[1] == "" || s.Disk != s.Written {
		t.Errorf("a checkpoint that is synced: %d and %d bytes are synced", len(s.Disk[0]), len(s.Disk[1]))
	}
	play(t, c, "calm | calm | calm")
	wantCommits(t, "a commit behind it", c.Result(), "2/1 0.2.0", "3/1 0.3.0")
}

// commitOf gives the records of a transaction that is prepared and decided at one stamp.
func commitOf(id api.Txn, home uint32, when api.Stamp, key string, o api.Outcome) []api.Record {
	decided := when
	if o == api.Aborted {
		decided = api.Stamp{}
	}
	return []api.Record{
		{Kind: api.RecPrepare, Txn: id, Home: home, At: when, Writes: []api.Write{{Key: key}}},
		{Kind: api.RecDecide, Txn: id, Home: home, Outcome: o, At: decided},
	}
}

// P17.7: commits are told by stamp, then by client, then by count; those of another home, and aborts, are not.
func TestCommitsAreSorted(t *testing.T) {
	reserve := []api.Record{{Kind: api.RecReserve, Wall: 100}}
	zero := slices.Concat(reserve,
		commitOf(txn(9, 1), 0, at(5, 0, 0), "a", api.Committed),
		commitOf(txn(8, 7), 0, at(6, 0, 0), "b", api.Committed),
		commitOf(txn(8, 8), 1, at(7, 0, 0), "c", api.Committed),
		commitOf(txn(8, 9), 0, at(8, 0, 0), "d", api.Aborted),
		commitOf(txn(7, 5), 0, at(9, 0, 0), "e", api.Committed))
	one := slices.Concat(reserve,
		commitOf(txn(9, 9), 1, at(1, 0, 0), "z", api.Committed),
		commitOf(txn(7, 2), 1, at(5, 0, 0), "y", api.Committed),
		commitOf(txn(8, 3), 1, at(6, 0, 0), "x", api.Committed),
		commitOf(txn(7, 4), 0, at(7, 0, 0), "w", api.Committed),
		commitOf(txn(7, 9), 1, at(9, 0, 0), "v", api.Committed))
	c, e := StartOn(two, []string{logOf(t, zero...), logOf(t, one...)})
	if e != api.OK {
		t.Fatal(e)
	}
	r := c.Result()
	wantCommits(t, "sorted", r, "9/9 1.0.0", "7/2 5.0.0", "9/1 5.0.0", "8/3 6.0.0", "8/7 6.0.0", "7/5 9.0.0", "7/9 9.0.0")
	wantNumber(t, "entries at 0", len(r.Shards[0].Entries), 5)
	var homes []uint32
	for _, entry := range r.Commits {
		homes = append(homes, entry.Home)
	}
	if want := []uint32{1, 1, 0, 1, 0, 0, 1}; !slices.Equal(homes, want) {
		t.Errorf("the homes %v, want %v", homes, want)
	}
}

// P17.7: what each shard has.
func TestResultShards(t *testing.T) {
	c := busy(t)
	r := c.Result()
	for n, s := range c.shards {
		got := r.Shards[n]
		want := api.Shown{
			Disk:    [2]string{s.disk.Bytes(0)[:s.disk.Synced(0)], s.disk.Bytes(1)[:s.disk.Synced(1)]},
			Written: [2]string{s.disk.Bytes(0), s.disk.Bytes(1)},
			Held:    s.Held(), Entries: s.Entries(), Parked: len(s.Parked()), Last: s.Last(), Ceiling: s.Ceiling(), Watermark: s.Watermark(),
		}
		wantSame(t, "a shard", api.Result{Shards: []api.Shown{got}}, api.Result{Shards: []api.Shown{want}})
	}
	if got := r.Shards[0].Held[0]; got.Txn != txn(2, 2) || got.At != at(0, 4, 0) || len(got.Writes) != 1 || got.Writes[0].Key != "b" {
		t.Errorf("shard 0 holds %+v", got)
	}
	if got := r.Shards[1].Held[0]; got.Txn != txn(2, 2) || got.Home != 0 || got.Writes[0].Key != "z" {
		t.Errorf("shard 1 holds %+v", got)
	}
	wantNumber(t, "entries at 0", len(r.Shards[0].Entries), 1)
	wantNumber(t, "entries at 1", len(r.Shards[1].Entries), 0)
}
