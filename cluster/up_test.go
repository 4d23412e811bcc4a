package cluster

import (
	"reflect"
	"strconv"
	"strings"
	"testing"

	"tidemark/api"
	"tidemark/route"
	"tidemark/wal"
)

// wantRefused holds a start to an error, beside which there is no cluster.
func wantRefused(t *testing.T, what string, c *Cluster, e, want api.Errno) {
	t.Helper()
	if c != nil || e != want {
		t.Errorf("%s: %p, %d, want nil, %d", what, c, e, want)
	}
}

// refusedConfigs are texts of which route.Parse tells an error.
func refusedConfigs() []string {
	return []string{
		"", "shards 2", two + "park 4", two + "x",
		strings.Replace(two, "shards 2", "shards 7", 1),
		strings.Replace(two, "clients 2", "clients 0", 1),
		strings.Replace(two, "split m\n", "", 1),
		strings.Replace(two, "capacity 65536", "capacity 255", 1),
		strings.Repeat("#\n", 301),
	}
}

// P17.1, P17.2, P17.8: what is no configuration is refused with route.Parse's error.
func TestConfigIsRefused(t *testing.T) {
	for _, config := range refusedConfigs() {
		_, want := route.Parse(config)
		if want == api.OK {
			t.Fatalf("%q is a configuration", config)
		}
		c, e := Start(config)
		wantRefused(t, "Start of "+strconv.Quote(config), c, e, want)
		for _, disks := range [][]string{nil, {"", ""}, {strings.Repeat("x", 70000), ""}} {
			c, e = StartOn(config, disks)
			wantRefused(t, "StartOn of "+strconv.Quote(config), c, e, want)
		}
		if r := Run(config, "wall 0 1"); !reflect.DeepEqual(r, api.Result{Status: want}) {
			t.Errorf("Run of %q: %+v", config, r)
		}
	}
}

// P17.1: a new cluster has its nodes and nothing else.
func TestStart(t *testing.T) {
	r := started(t, "").Result()
	header := logOf(t)
	fresh := api.Shown{Disk: [2]string{header, ""}, Written: [2]string{header, ""}, Held: []api.Held{}, Entries: []api.Entry{}}
	want := api.Result{
		Config: api.Config{Shards: 2, Clients: 2, Splits: []string{"m"}, Capacity: 65536, Park: 4, Window: 10},
		Shards: []api.Shown{fresh, fresh},
	}
	wantSame(t, "a new cluster", r, want)
	for shards := 1; shards <= 6; shards++ {
		for clients := 1; clients <= 6; clients++ {
			config := "shards " + strconv.Itoa(shards) + "\nclients " + strconv.Itoa(clients) + "\ncapacity 256\npark 0\nwindow 0"
			for _, split := range []string{"b", "c", "d", "e", "f"}[:shards-1] {
				config += "\nsplit " + split
			}
			c, e := Start(config)
			if e != api.OK {
				t.Fatalf("%q: %d", config, e)
			}
			for n := range 14 {
				number := strconv.Itoa(n)
				answers := map[string]bool{"wall " + number + " 1": n < shards+clients, "sync " + number: n < shards, "kill " + number: n >= shards && n < shards+clients}
				for line, there := range answers {
					if e := c.Step(line); (e == api.OK) != there {
						t.Errorf("%d shards, %d clients: %q is answered %d", shards, clients, line, e)
					}
				}
			}
		}
	}
}

// P17.1: all physical readings are 0, and each node's stamps are its own.
func TestStartReadings(t *testing.T) {
	r := run("begin 2 rw % | begin 3 rw % | put 2 a 1 | put 3 z 1 | commit 2 | commit 3 | calm | calm | calm | calm")
	wantCommits(t, "two commits", r, "2/1 0.2.0", "3/1 0.2.1")
	wantNumber(t, "the home of the first", int(r.Commits[0].Home), 0)
	wantNumber(t, "the home of the second", int(r.Commits[1].Home), 1)
}

// P17.2: there must be a text for each shard.
func TestStartOnNumber(t *testing.T) {
	for _, disks := range [][]string{nil, {}, {""}, {"", "", ""}, {strings.Repeat("x", 65537)}} {
		c, e := StartOn(two, disks)
		wantRefused(t, strconv.Itoa(len(disks))+" texts", c, e, api.ErrArg)
	}
}

// broken is a log that no state follows: a commit of what is not held.
func broken(t *testing.T) string {
	return logOf(t, api.Record{Kind: api.RecDecide, Txn: txn(2, 1), Outcome: api.Committed, At: at(1, 0, 0)})
}

// P17.2: the first error is told, the shards rising.
func TestStartOnErrors(t *testing.T) {
	full, bad, good := strings.Repeat("x", 65537), broken(t), logOf(t, api.Record{Kind: api.RecReserve, Wall: 5})
	for _, row := range []struct {
		disks [2]string
		e     api.Errno
	}{
		{[2]string{full, ""}, api.ErrFull}, {[2]string{"", full}, api.ErrFull}, {[2]string{good, full}, api.ErrFull},
		{[2]string{bad, ""}, api.ErrBroken}, {[2]string{"", bad}, api.ErrBroken}, {[2]string{good, bad}, api.ErrBroken},
		{[2]string{bad, full}, api.ErrBroken}, {[2]string{full, bad}, api.ErrFull},
	} {
		c, e := StartOn(two, row.disks[:])
		wantRefused(t, "StartOn", c, e, row.e)
	}
	image, e := wal.Encode(api.Record{Kind: api.RecImage, Image: "x"})
	if e != api.OK {
		t.Fatal(e)
	}
	c, e := StartOn(two, []string{logOf(t) + image, ""}) // in the first generation an image is the end of the log
	if e != api.OK || c.Result().Shards[0].Disk[0] != logOf(t) {
		t.Errorf("an image in the first generation: %d", e)
	}
}

// P17.2: a text may fill the disk; what holds no log is emptied, what is torn is cut.
func TestStartOnBytes(t *testing.T) {
	log := logOf(t, api.Record{Kind: api.RecReserve, Wall: 5}, api.Record{Kind: api.RecReserve, Wall: 9})
	one := logOf(t, api.Record{Kind: api.RecReserve, Wall: 5})
	for _, row := range []struct {
		text, kept string
		ceiling    uint64
	}{
		{"", logOf(t), 0},
		{strings.Repeat("x", 65536), logOf(t), 0},
		{log, log, 9},
		{log[:len(log)-1], one, 5},
		{log + "x", log, 9},
		{log + strings.Repeat("x", 65536-len(log)), log, 9},
		{one + broken(t)[14:], "", 0},
	} {
		c, e := StartOn(two, []string{"", row.text})
		if row.kept == "" {
			wantRefused(t, "StartOn", c, e, api.ErrBroken)
			continue
		}
		if e != api.OK {
			t.Fatalf("StartOn of %d bytes: %d", len(row.text), e)
		}
		s := c.Result().Shards[1]
		if s.Disk != [2]string{row.kept, ""} || s.Written != s.Disk || s.Ceiling != row.ceiling || s.Last != at(row.ceiling, 0, 0) {
			t.Errorf("StartOn of %d bytes: %+v", len(row.text), s)
		}
	}
}

// P17.2: with empty texts it is Start.
func TestStartOnNothing(t *testing.T) {
	for seed := range int64(20) {
		d := newDice(t, seed, everything, nil)
		twin, e := StartOn(d.h.config, make([]string, len(d.h.c.shards)))
		if e != api.OK {
			t.Fatal(e)
		}
		wantSame(t, "at the beginning", twin.Result(), d.h.c.Result())
		d.play(80)
		for _, line := range d.h.lines {
			twin.Step(line)
		}
		wantSame(t, "behind a script", twin.Result(), d.h.c.Result())
	}
}

// P17.2: what the disks hold is there, and the texts are not changed or kept as a list.
func TestStartOnDisks(t *testing.T) {
	before := started(t, done+" | begin 3 rw @2 | put 3 z 9 | put 3 b 8 | commit 3 | calm").Result()
	disks := []string{before.Shards[0].Disk[0], before.Shards[1].Disk[0], "spare"}[:2]
	c, e := StartOn(two, disks)
	if e != api.OK {
		t.Fatal(e)
	}
	if disks[:3][2] != "spare" || disks[0] != before.Shards[0].Disk[0] {
		t.Error("StartOn changes the texts")
	}
	disks[0], disks[1] = "", ""
	r := c.Result()
	wantCommits(t, "the disks' commits", r, "2/1 0.2.0")
	wantNumber(t, "steps", r.Steps, 0)
	wantNumber(t, "in flight", r.Flight, 0)
	for i := range r.Shards {
		if !reflect.DeepEqual(r.Shards[i].Held, before.Shards[i].Held) || len(r.Shards[i].Held) != 1 {
			t.Errorf("shard %d holds %v, want %v", i, r.Shards[i].Held, before.Shards[i].Held)
		}
	}
	play(t, c, "tick 0 | tick 1 | calm | calm | wall 3 50 | begin 3 ro % | scan 3 % % 0 | calm | calm")
	wantLast(t, "what is read of the disks", c.Result(), "7-9 3/1 scan 50.0.3 a=1")
}

// P17.2, Words: a Query to a home that is not there is taken out of the flight, and lost.
func TestHomeThatIsNotThere(t *testing.T) {
	for _, home := range []uint32{1, 2, 3, 4, 77, 1<<32 - 1} {
		log := logOf(t,
			api.Record{Kind: api.RecReserve, Wall: 5},
			api.Record{Kind: api.RecPrepare, Txn: txn(9, 1), Home: home, At: at(1, 0, 0), Writes: []api.Write{{Key: "a", Value: "1"}}})
		for _, line := range []string{"take 0", "calm 0", "round 0"} {
			c, e := StartOn(two, []string{log, ""})
			if e != api.OK {
				t.Fatal(e)
			}
			play(t, c, "tick 0")
			wantNumber(t, "a Query in flight", c.Result().Flight, 1)
			play(t, c, line)
			r := c.Result()
			wantNumber(t, "steps", r.Steps, 2)
			if home == 1 { // that one is there: it lays an abort down, and tells it once that is synced
				wantNumber(t, "entries at the home", len(r.Shards[1].Entries), 1)
				continue
			}
			left := 0
			if line == "round 0" {
				left = 1 // the timer asks again
			}
			wantNumber(t, "in flight behind "+line+", home "+strconv.Itoa(int(home)), r.Flight, left)
			wantNumber(t, "held", len(r.Shards[0].Held), 1)
			wantNumber(t, "events", len(r.Events), 0)
		}
	}
}
