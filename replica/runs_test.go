package replica

import (
	"slices"
	"testing"

	"tidemark/api"
	"tidemark/audit"
	"tidemark/backup"
	"tidemark/cluster"
	"tidemark/feed"
	"tidemark/stamp"
)

// follower is a replica of a cluster, with what is known of it.
type follower struct {
	*Replica
	next  int       // the place of the first result that it may follow
	bound api.Stamp // where its bound has to be
}

// answered is a read that a replica answered OK.
type answered struct {
	span  api.Span
	at    api.Stamp
	pairs []api.Pair
}

// run is a cluster that goes through a script, with all that was seen of it on the way.
type run struct {
	*testing.T
	seed int64
	dice
	results   []api.Result
	stamps    []api.Stamp
	followers []*follower
	reads     []answered
	taken     map[api.Stamp]string // backups
	seen      map[string]int
}

func (x *run) last() api.Result { return x.results[len(x.results)-1] }

// sees keeps a result.
func (x *run) sees(r api.Result) {
	x.results = append(x.results, r)
	x.stamps = []api.Stamp{feed.Bound(r), at(uint64(x.Intn(60)), 0, 0)}
	for _, e := range r.Commits {
		x.stamps = append(x.stamps, e.At)
	}
	for _, f := range x.followers {
		x.stamps = append(x.stamps, f.Base(), f.Bound())
	}
}

// take takes a backup of the last result, and now and then brings a follower up on it.
func (x *run) take() {
	s := x.near(x.stamps)
	text, e := backup.Take(x.last(), s)
	if e != api.OK {
		return
	}
	x.taken[s] = text
	x.seen["taken"]++
	if len(x.followers) > 4 || x.Intn(3) > 0 {
		return
	}
	p, e := Load(text)
	if e != api.OK || p.Base() != s || p.Bound() != modelAfter(s) {
		x.Fatalf("seed %d: the backup at %v is loaded: %d, from %v to %v", x.seed, s, e, p.Base(), p.Bound())
	}
	x.followers = append(x.followers, &follower{p, len(x.results) - 1, modelAfter(s)})
	x.seen["loaded"]++
}

// follow has a follower follow a result, the last one or an earlier one that it has not passed yet (P23.9: none is refused).
func (x *run) follow(f *follower) {
	if x.Intn(2) == 0 {
		f.next = len(x.results) - 1
	}
	f.next += x.Intn(len(x.results) - f.next)
	r := x.results[f.next]
	bound := feed.Bound(r)
	want := 0
	if stamp.Less(f.bound, bound) {
		want = len(feed.Changes(r, f.bound, bound))
		f.bound = bound
	}
	before := f.Len()
	n, e := f.Follow(r)
	if n != want || e != api.OK || f.Bound() != f.bound || f.Len() != before+n {
		x.Fatalf("seed %d: Follow: %d, %d, the bound is %v, want %d and %v", x.seed, n, e, f.Bound(), want, f.bound)
	}
	x.seen["followed"] += min(n, 1)
}

// read keeps what a follower answers.
func (x *run) read(f *follower) {
	span := api.Span{Lo: x.pick("", "", "b"), Hi: x.pick("", "", "m", "a")}
	s := x.near(append(x.stamps, f.Base(), f.Bound()))
	pairs, e := f.Read(span, s)
	want := api.OK
	switch {
	case below(s, f.Base()):
		want = api.ErrOld
	case !below(s, f.Bound()):
		want = api.ErrEarly
	}
	if e != want {
		x.Fatalf("seed %d: the read at %v is answered %d, want %d", x.seed, s, e, want)
	}
	if e == api.OK {
		x.reads = append(x.reads, answered{span, s, pairs})
		x.seen["read"] += min(len(pairs), 1)
	}
}

// trim raises a follower's base (P23.10: it changes no answer at or above the new one).
func (x *run) trim(f *follower) {
	base := x.near(x.stamps)
	n, e := f.Trim(base)
	if e == api.OK && f.Base() != base {
		x.Fatalf("seed %d: the base is %v behind Trim(%v)", x.seed, f.Base(), base)
	}
	x.seen["gone"] += min(n, 1)
}

func (x *run) play(c *cluster.Cluster, lines []string) {
	x.sees(c.Result())
	x.followers = []*follower{{New(), 0, api.Stamp{}}}
	for _, line := range lines {
		c.Step(line)
		if x.Intn(4) > 0 {
			continue
		}
		x.sees(c.Result())
		x.take()
		for _, f := range x.followers {
			if x.Intn(3) == 0 {
				x.follow(f)
			}
			x.read(f)
			if x.Intn(12) == 0 {
				x.trim(f)
			}
		}
	}
	x.sees(c.Result())
}

// P23.9: whatever was read is the state of the result at the end.
func (x *run) wantSnapshots() {
	for _, a := range x.reads {
		if want := audit.State(x.last(), a.span, a.at); !slices.Equal(a.pairs, want) {
			x.Fatalf("seed %d: at %v %q was answered %q, at the end it is %q", x.seed, a.at, a.span, a.pairs, want)
		}
		for _, f := range x.followers {
			pairs, e := f.Read(a.span, a.at)
			if e == api.OK && !slices.Equal(pairs, a.pairs) {
				x.Fatalf("seed %d: at %v %q was answered %q, and now %q", x.seed, a.at, a.span, a.pairs, pairs)
			}
		}
	}
}

// P23.10: replicas agree, and with the backups that were taken on the way or can be taken now.
func (x *run) wantAgreed() {
	stamps := x.stamps
	for s := range x.taken {
		stamps = append(stamps, s)
	}
	for _, s := range stamps {
		want, taken := x.taken[s]
		if text, e := backup.Take(x.last(), s); e == api.OK {
			if taken && text != want {
				x.Fatalf("seed %d: two backups at %v: %q and %q", x.seed, s, text, want)
			}
			want = text
		}
		for _, f := range x.followers {
			text, e := f.Save(s)
			if e != api.OK {
				continue
			}
			if want == "" {
				want = text
				continue
			}
			if text != want {
				x.Fatalf("seed %d: at %v there is saved %q, and elsewhere %q", x.seed, s, text, want)
			}
			x.seen["agreed"]++
		}
	}
}

// P23.9, P23.10: drawn scripts, with crashes, watermarks, messages that are lost and clients that are killed.
func TestRuns(t *testing.T) {
	seen := map[string]int{}
	for seed := range int64(250) {
		x := &run{T: t, seed: seed, dice: newDice(seed), taken: map[api.Stamp]string{}, seen: seen}
		config, shards := x.config()
		c, e := cluster.Start(config)
		if e != api.OK {
			t.Fatalf("seed %d: Start: %d", seed, e)
		}
		x.play(c, x.script(80+x.Intn(120), shards))
		x.wantSnapshots()
		for _, f := range x.followers {
			x.follow(f)
			x.read(f)
		}
		x.wantSnapshots()
		x.wantAgreed()
		seen["followers"] += len(x.followers) - 1
	}
	wantSeen(t, seen, "taken", "loaded", "followed", "read", "gone", "agreed", "followers")
}
