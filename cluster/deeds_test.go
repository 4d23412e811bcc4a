package cluster

import (
	"strings"
	"testing"

	"tidemark/api"
	"tidemark/msg"
)

// inTheAir tells the kinds and receivers of what is in flight.
func inTheAir(c *Cluster) string {
	names := []string{"?", "read", "data", "prepare", "vote", "commit", "done", "decide", "query", "tell"}
	var list []string
	for _, bytes := range c.flight.All() {
		m, _ := msg.Decode(bytes)
		list = append(list, names[m.Kind]+" "+string('0'+rune(m.From))+">"+string('0'+rune(m.To)))
	}
	return strings.Join(list, ", ")
}

func wantInTheAir(t *testing.T, what string, c *Cluster, want string) {
	t.Helper()
	if got := inTheAir(c); got != want {
		t.Errorf("%s: in flight are %q, want %q", what, got, want)
	}
}

const across = "begin 2 rw % | put 2 a 1 | put 2 z 1 | commit 2"

// P17.4: wall hands a node its reading, a shard or a client.
func TestWall(t *testing.T) {
	r := run("wall 2 7 | begin 2 rw % | put 2 a 1 | wall 0 9 | wall 1 50 | commit 2 | calm | calm | calm | calm | wall 2 3 | begin 2 rw %")
	wantEvents(t, "wall", r, "2-2 2/1 begin 7.0.2, 3-3 2/1 put 7.0.2, 6-10 2/1 commit 9.0.0, 12-12 2/2 begin 9.1.2")
}

// P17.4: take, drop and copy are about the message at that place.
func TestOneMessage(t *testing.T) {
	c := started(t, across)
	wantInTheAir(t, "a commit over two shards", c, "prepare 2>0, prepare 2>1")
	play(t, c, "copy 0")
	wantInTheAir(t, "copy 0", c, "prepare 2>0, prepare 2>1, prepare 2>0")
	play(t, c, "drop 0")
	wantInTheAir(t, "drop 0", c, "prepare 2>1, prepare 2>0")
	play(t, c, "take 1")
	wantInTheAir(t, "take 1", c, "prepare 2>1")
	wantNumber(t, "held at 0", len(c.Result().Shards[0].Held), 1)
	wantNumber(t, "held at 1", len(c.Result().Shards[1].Held), 0)
	play(t, c, "sync 0")
	wantInTheAir(t, "sync 0", c, "prepare 2>1, vote 0>2")
	play(t, c, "copy 0 | take 0 | take 1 | sync 1")
	wantInTheAir(t, "the same Prepare twice", c, "vote 0>2, vote 1>2, vote 1>2")
}

// P17.4: sync is of one shard.
func TestSync(t *testing.T) {
	c := started(t, across+" | take 0 | take 0")
	wantInTheAir(t, "ahead of a sync", c, "")
	play(t, c, "sync 1")
	wantInTheAir(t, "sync 1", c, "vote 1>2")
	r := c.Result()
	if s := r.Shards[0]; s.Disk == s.Written {
		t.Error("sync 1 syncs shard 0")
	}
	if s := r.Shards[1]; s.Disk != s.Written {
		t.Error("sync 1 does not sync shard 1")
	}
}

// P17.4: tick is a client's or a shard's.
func TestTick(t *testing.T) {
	c := started(t, across+" | take 1 | drop 0 | tick 2")
	wantInTheAir(t, "tick 2", c, "prepare 2>0, prepare 2>1")
	play(t, c, "drop 0 | drop 0 | tick 1")
	wantInTheAir(t, "a shard's tick, its log not synced", c, "")
	play(t, c, "sync 1")
	wantInTheAir(t, "sync 1", c, "vote 1>2, query 1>0")
	play(t, c, "drop 0 | drop 0 | tick 1 | tick 0 | tick 3")
	wantInTheAir(t, "a shard's tick", c, "query 1>0")
	play(t, c, "take 0 | sync 0")
	wantInTheAir(t, "the home has decided", c, "tell 0>1")
}

// P17.4: calm delivers what is in flight, from the place that T comes to, and then syncs every shard.
func TestCalm(t *testing.T) {
	for turn, want := range map[string]string{
		"0": "vote 0>2, vote 1>2, data 1>3", "1": "vote 0>2, vote 1>2, data 1>3", "2": "vote 0>2, data 1>3, vote 1>2",
		"3": "vote 0>2, vote 1>2, data 1>3", "9223372036854775807": "vote 0>2, vote 1>2, data 1>3",
	} {
		c := started(t, across+" | begin 3 ro % | get 3 zz | calm "+turn)
		wantInTheAir(t, "calm "+turn, c, want)
		for n, s := range c.Result().Shards {
			if s.Disk != s.Written || len(s.Held) != 1 {
				t.Errorf("calm %s: shard %d has not all synced", turn, n)
			}
		}
	}
	c := started(t, across+" | calm | take 0 | take 0 | calm")
	wantInTheAir(t, "what comes of a calm is in flight", c, "done 0>2")
	play(t, c, "copy 0 | tick 1 | calm")
	wantInTheAir(t, "one calm, one hop", c, "decide 2>1, tell 0>1")
}

// P17.4: a round is a calm, and then all timers fire.
func TestRound(t *testing.T) {
	c := started(t, across+" | round 0")
	wantInTheAir(t, "a round", c, "vote 0>2, vote 1>2, query 1>0, prepare 2>0, prepare 2>1")
	r := c.Result()
	if s := r.Shards[0]; s.Disk == s.Written || len(s.Held) != 0 || len(s.Entries) != 1 {
		t.Errorf("the home's timer comes behind its sync: %+v", s)
	}
	one, other := started(t, across+" | round 1"), started(t, across+" | calm 1 | tick 0 | tick 1 | tick 2 | tick 3")
	a, b := one.Result(), other.Result()
	wantInTheAir(t, "a round", one, inTheAir(other))
	a.Steps, b.Steps = 0, 0
	wantSame(t, "a round", a, b)
}

// P17.4: what a crash keeps, and what it loses.
func TestCrash(t *testing.T) {
	prepared := across + " | take 0 | take 0"
	c := started(t, prepared)
	s := c.Result().Shards[0]
	unsynced := len(s.Written[0]) - len(s.Disk[0])
	play(t, c, "crash 0 0 0")
	r := c.Result()
	if got := r.Shards[0]; got.Written != s.Disk || got.Disk != s.Disk || len(got.Held) != 0 || got.Ceiling != 0 {
		t.Errorf("a crash that keeps nothing leaves %+v", got)
	}
	wantNumber(t, "the other shard holds", len(r.Shards[1].Held), 1)
	play(t, c, "sync 0")
	wantInTheAir(t, "what was not sent is lost", c, "")

	for _, keep := range []struct {
		line          string
		held, ceiling int
	}{
		{"crash 0 9223372036854775807 0", 1, 11},
		{"crash 0 9223372036854775807 9223372036854775807", 1, 11},
		{"crash 0 " + decimal(unsynced) + " 0", 1, 11},
		{"crash 0 " + decimal(unsynced-1) + " 0", 0, 11}, // the Prepare is torn, the ceiling stands
		{"crash 0 1 0", 0, 0},
		{"crash 0 0 9223372036854775807", 0, 0}, // the other slot's bytes are none of these
	} {
		c := started(t, prepared+" | "+keep.line)
		got := c.Result().Shards[0]
		wantNumber(t, keep.line+": held", len(got.Held), keep.held)
		wantNumber(t, keep.line+": the ceiling", int(got.Ceiling), keep.ceiling)
		if got.Disk != got.Written || got.Last != at(uint64(keep.ceiling), 0, 0) {
			t.Errorf("%s: %+v", keep.line, got)
		}
		play(t, c, "sync 0")
		wantInTheAir(t, keep.line, c, "")
	}
}

// P17.4: of slot 1 a crash keeps what stands at the second place.
func TestCrashOfACheckpoint(t *testing.T) {
	saved := done + " | save 0"
	for line, slot := range map[string]int{"crash 0 0 9223372036854775807": 1, "crash 0 9223372036854775807 0": 0, "crash 0 9223372036854775807 20": 0} {
		r := started(t, saved+" | "+line).Result()
		got := r.Shards[0]
		if got.Disk[slot] == "" || got.Disk[1-slot] != "" {
			t.Errorf("%s: %d and %d bytes", line, len(got.Disk[0]), len(got.Disk[1]))
		}
		wantCommits(t, line, r, "2/1 0.2.0")
	}
}

// P17.4: behind a crash the physical reading is 0, and what was parked is lost.
func TestCrashForgets(t *testing.T) {
	c := started(t, "wall 0 100 | "+asking+" | calm")
	wantNumber(t, "the ceiling", int(c.Result().Shards[0].Ceiling), 111)
	play(t, c, "wall 3 105 | begin 3 ro % | get 3 a | calm")
	wantNumber(t, "parked", c.Result().Shards[0].Parked, 1)
	play(t, c, "crash 0 0 0")
	r := c.Result()
	wantNumber(t, "parked behind a crash", r.Shards[0].Parked, 0)
	wantNumber(t, "held behind a crash", len(r.Shards[0].Held), 1)
	wantWaiting(t, "both wait still", r, "4-0 2/1 commit 0.1.2, 8-0 3/1 get 105.0.3")
	play(t, c, "wall 0 5 | calm | calm | calm | tick 3 | calm | calm")
	wantLast(t, "the read is asked again", c.Result(), "8-17 3/1 get 105.0.3 a=1")
	r = started(t, "wall 0 100 | crash 0 0 0 | "+asking+" | calm").Result()
	if got := r.Shards[0].Held[0].At; got != at(0, 2, 0) {
		t.Errorf("behind a crash a shard prepares at %v", got)
	}
}

// P17.4: mark and save tell the shard's refusal, and are not counted as steps then.
func TestMarkAndSave(t *testing.T) {
	c := started(t, done)
	for _, row := range []struct {
		line string
		e    api.Errno
	}{
		{"mark 0 0.0.0", api.ErrOld}, {"mark 0 5.0.0", api.OK}, {"mark 0 5.0.0", api.ErrOld}, {"mark 0 4.9.9", api.ErrOld},
		{"mark 0 18446744073709551615.0.0", api.ErrExhausted}, {"mark 1 1.0.0", api.OK},
		{"save 0", api.OK}, {"save 0", api.ErrPending}, {"save 1", api.OK}, {"sync 0", api.OK}, {"save 0", api.OK},
	} {
		before := c.Result()
		e := c.Step(row.line)
		if e != row.e {
			t.Errorf("%q is answered %d, want %d", row.line, e, row.e)
		}
		if r := c.Result(); e != api.OK {
			wantSame(t, row.line, r, before)
		} else {
			wantNumber(t, row.line+": steps", r.Steps, before.Steps+1)
		}
	}
	r := c.Result()
	if r.Shards[0].Watermark != at(5, 0, 0) || r.Shards[1].Watermark != at(1, 0, 0) {
		t.Errorf("the watermarks are %v and %v", r.Shards[0].Watermark, r.Shards[1].Watermark)
	}
	full, e := Start("shards 1\nclients 1\ncapacity 256\npark 0\nwindow 0")
	if e != api.OK {
		t.Fatal(e)
	}
	for n := 1; e == api.OK && n < 100; n++ {
		e = full.Step("mark 0 " + decimal(n) + ".0.0")
	}
	if e != api.ErrFull || full.Step("save 0") != api.ErrFull {
		t.Errorf("a full disk: %d", e)
	}
}

// P17.4: a read that a mark makes old is answered at the shard's next sync.
func TestMarkWakes(t *testing.T) {
	c := started(t, asking+" | calm | wall 3 5 | begin 3 ro % | get 3 a | calm | mark 0 6.0.0")
	wantInTheAir(t, "behind the mark", c, "commit 2>0")
	wantNumber(t, "parked", c.Result().Shards[0].Parked, 0)
	play(t, c, "sync 0 | take 1")
	wantLast(t, "the read is old", c.Result(), "7-11 3/1 get error 90 5.0.3")
}

// P17.4: kill forgets what a client has open, and nothing of the others.
func TestKill(t *testing.T) {
	c := started(t, "begin 2 rw % | begin 3 rw % | get 2 a | get 3 a | kill 2")
	r := c.Result()
	wantWaiting(t, "kill 2", r, "4-0 3/1 get 0.1.3")
	wantNumber(t, "in flight", r.Flight, 2)
	play(t, c, "put 2 a 1 | calm | calm | calm")
	wantEvents(t, "behind it", c.Result(), "1-1 2/1 begin 0.1.2, 2-2 3/1 begin 0.1.3, 6-6 2/0 put error 161 0.0.0, 4-8 3/1 get 0.1.3")
}
