package replica

import (
	"reflect"
	"slices"
	"testing"

	"tidemark/api"
)

// roomy gives a list with spare room, in which something stands.
func roomy[T any](list []T, spare T) []T {
	grown := append(make([]T, 0, len(list)+2), list...)
	return append(grown, spare, spare)[:len(list)]
}

// whole is a list with its spare room, in memory of its own.
func whole[T any](list []T) []T { return slices.Clone(list[:cap(list)]) }

// spoil writes over a list, spare room included.
func spoil[T any](list []T, with T) {
	list = list[:cap(list)]
	for i := range list {
		list[i] = with
	}
}

var (
	spoiltPair    = api.Pair{Key: "spoilt"}
	spoiltVersion = api.Version{Key: "spoilt", At: at(1, 0, 0)}
)

// P23.11: changes that are handed in are not changed, spare room included, whether they are taken or not, and not kept.
func TestChangesAreNotKept(t *testing.T) {
	for seed := range int64(400) {
		d := newDice(seed)
		p, m := grown(t), grown(t)
		list := d.changes(at(9, 0, 0), at(20, 0, 0))
		if d.Intn(3) == 0 {
			list = d.spoiled(list, &model{base: at(5, 0, 2), bound: at(9, 0, 0)})
		}
		list = roomy(list, spoiltVersion)
		before := whole(list)
		e := p.Feed(list, at(20, 0, 0))
		if !slices.Equal(whole(list), before) {
			t.Fatalf("seed %d: Feed makes of %v %v", seed, before, whole(list))
		}
		spoil(list, spoiltVersion)
		if f := m.Feed(before[:len(list):len(list)], at(20, 0, 0)); f != e {
			t.Fatalf("seed %d: two Feeds alike: %d and %d", seed, e, f)
		}
		for wall := range uint64(20) {
			one, e := p.Save(at(wall, 5, 0))
			two, f := m.Save(at(wall, 5, 0))
			if one != two || e != f {
				t.Fatalf("seed %d: behind the list was written over: at %d %q, %d, want %q, %d", seed, wall, one, e, two, f)
			}
		}
	}
}

// P23.11: a result that is followed is not changed, spare room included.
func TestAResultIsNotChanged(t *testing.T) {
	r := lone(t, at(20, 0, 0))
	wrote(&r, at(11, 0, 0), "a=2")
	wrote(&r, at(10, 0, 0), "a=1", "b")
	r.Events = roomy(r.Events, api.Event{Asked: 9})
	r.Commits = roomy(r.Commits, api.Entry{Home: 9})
	r.Shards[0].Held = roomy([]api.Held{{At: at(19, 0, 0)}, {At: at(18, 0, 0)}}, api.Held{Home: 9})
	r.Shards = roomy(r.Shards, api.Shown{Parked: 9})
	copied := func() api.Result {
		c := r
		c.Events, c.Commits, c.Shards = whole(r.Events), whole(r.Commits), whole(r.Shards)
		c.Shards[0].Held = whole(r.Shards[0].Held)
		return c
	}
	before := copied()
	p := New()
	wantFollow(t, "once", p, r, 3, api.OK)
	wantFollow(t, "again", p, r, 0, api.OK)
	if after := copied(); !reflect.DeepEqual(after, before) {
		t.Errorf("Follow makes of %+v %+v", before, after)
	}
	spoil(r.Events, api.Event{})
	spoil(r.Commits, api.Entry{})
	wantReads(t, p, at(10, 0, 0), api.Span{}, "a=1")
	wantReads(t, p, at(17, 0, 0), api.Span{}, "a=2")
}

// P23.11: what is answered is new memory.
func TestAnswersAreNew(t *testing.T) {
	p := grown(t)
	wantFeed(t, p, api.OK, at(12, 0, 0), numbered(100, at(10, 0, 0))...)
	for _, s := range []api.Stamp{at(5, 0, 2), at(7, 0, 0), at(11, 0, 0)} {
		first, _ := p.Read(api.Span{}, s)
		second, _ := p.Read(api.Span{}, s)
		want := slices.Clone(second)
		spoil(first, spoiltPair)
		third, _ := p.Read(api.Span{}, s)
		if len(want) == 0 || slices.Contains(second[:cap(second)], spoiltPair) || !slices.Equal(third, want) {
			t.Errorf("at %v two Reads share memory: %q, %q, want %q", s, second, third, want)
		}
	}
}

// P23.11: two replicas share nothing, also where one was made of what the other one saved.
func TestReplicasAreApart(t *testing.T) {
	text := backupOf(t, at(5, 0, 2), "a=1", "b=")
	p, q := loaded(t, text), loaded(t, text)
	saved, _ := p.Save(at(5, 0, 2))
	r := loaded(t, saved)
	list := changes(put("a", "2", at(7, 0, 0)), deleted("b", at(7, 0, 0)))
	wantFeed(t, p, api.OK, at(9, 0, 0), list...)
	wantFeed(t, r, api.OK, at(8, 0, 0), list...)
	wantTrim(t, p, at(8, 0, 0), 3, api.OK)
	wantStands(t, "the one", p, at(8, 0, 0), at(9, 0, 0), 1)
	wantStands(t, "the other one", q, at(5, 0, 2), at(5, 0, 3), 2)
	wantStands(t, "the one that was made of it", r, at(5, 0, 2), at(8, 0, 0), 4)
	wantReads(t, q, at(5, 0, 2), api.Span{}, "a=1", "b=")
	wantReads(t, r, at(6, 0, 0), api.Span{}, "a=1", "b=")
	wantReads(t, r, at(7, 0, 0), api.Span{}, "a=2")

	first, second := New(), New()
	wantFeed(t, first, api.OK, at(2, 0, 0), put("a", "1", at(1, 0, 0)))
	wantStands(t, "a second new one", second, at(0, 0, 0), at(0, 0, 0), 0)
}

// FuzzFeed holds Feeds of any two changes to the model (P23.4), and Load to what backup.Read says (P23.2).
func FuzzFeed(f *testing.F) {
	f.Add("a", "1", uint64(9), uint32(0), false, "b", "", uint64(9), uint32(1), true, uint64(12), "")
	f.Add("a", "1", uint64(9), uint32(1), false, "a", "", uint64(9), uint32(1), true, uint64(12), "tidemark backup 1\n")
	f.Add("", "x", uint64(topWall), uint32(topSmall), true, "b", "", uint64(3), uint32(1), false, uint64(topWall), "x")
	f.Fuzz(func(t *testing.T, key, value string, wall uint64, logical uint32, gone bool, key2, value2 string, wall2 uint64, logical2 uint32, gone2 bool, bound uint64, text string) {
		m, want := modelLoad(text)
		p, e := Load(text)
		if e != want || (p == nil) != (m == nil) {
			t.Fatalf("Load(%q): %v, %d, want %d", text, p, e, want)
		}
		if p == nil {
			p, m = New(), &model{}
		}
		list := []api.Version{{Key: key, At: at(wall, logical, 0), Delete: gone, Value: value}, {Key: key2, At: at(wall2, logical2, 0), Delete: gone2, Value: value2}}
		to := at(bound, 0, 0)
		want, why := m.feed(list, to)
		if e := p.Feed(list, to); e != want {
			t.Fatalf("Feed(%v, %v): %d, want %d: %s", list, to, e, want, why)
		}
		if p.Bound() != m.bound || p.Len() != len(m.list) {
			t.Fatalf("the bound is %v, with %d versions, want %v, %d", p.Bound(), p.Len(), m.bound, len(m.list))
		}
		for _, s := range append(m.stamps(), After(m.base)) {
			pairs, e := p.Read(api.Span{}, s)
			if same, f := m.read(api.Span{}, s); !slices.Equal(pairs, same) || e != f {
				t.Fatalf("Read at %v: %q, %d, want %q, %d", s, pairs, e, same, f)
			}
		}
	})
}
