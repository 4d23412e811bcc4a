package feed

import (
	"reflect"
	"slices"
	"testing"

	"tidemark/api"
)

// roomy gives a list with spare room, in which something stands.
func roomy[T any](list []T, spare T) []T {
	grown := append(make([]T, 0, len(list)+2), list...)
	return append(grown, spare, spare)[:len(list)]
}

// copied is the result with its spare room, in memory of its own.
func copied(r api.Result) api.Result {
	r.Events = slices.Clone(r.Events[:cap(r.Events)])
	r.Commits = slices.Clone(r.Commits[:cap(r.Commits)])
	r.Shards = slices.Clone(r.Shards[:cap(r.Shards)])
	for i := range r.Shards {
		held := r.Shards[i].Held
		r.Shards[i].Held = slices.Clone(held[:cap(held)])
	}
	return r
}

// P19.7: what is handed in is not changed, spare room included; answers are new memory, and a feed keeps none of it.
func TestMemory(t *testing.T) {
	for seed := range int64(300) {
		d := newDice(seed)
		r := d.result()
		for i := range r.Shards {
			r.Shards[i].Held = roomy(r.Shards[i].Held, api.Held{Txn: txn(9, 9)})
		}
		r.Shards = append(r.Shards, shown(t, uint32(len(r.Shards)), reserve(100)))
		r.Shards = roomy(r.Shards, api.Shown{Parked: 9})
		r.Events = roomy(append(r.Events, put(txn(5, 1), "a", "1")), put(txn(9, 9), "spare", "x"))
		r.Commits = roomy(append(r.Commits, entry(txn(5, 1), at(0, 0, 0))), entry(txn(9, 9), at(1, 0, 0)))
		before := copied(r)
		f, g := New(), New()
		wantNew(t, func() []api.Version { return Changes(r, at(0, 0, 0), top) })
		wantNew(t, func() []api.Version { list, _ := New().Poll(r); return list })
		one, _ := f.Poll(r)
		two, _ := g.Poll(r)
		spoil(one)
		if slices.Contains(two[:cap(two)], spoilt) {
			t.Fatalf("seed %d: two feeds share memory", seed)
		}
		if !reflect.DeepEqual(copied(r), before) {
			t.Fatalf("seed %d: what was handed in is changed: %+v, was %+v", seed, copied(r), before)
		}
	}
}

var spoilt = api.Version{Key: "spoilt"}

// spoil writes over a list, spare room included.
func spoil(list []api.Version) {
	for i := range list[:cap(list)] {
		list[:cap(list)][i] = spoilt
	}
}

// wantNew spoils an answer and asks again.
func wantNew(t *testing.T, ask func() []api.Version) {
	t.Helper()
	first, second := ask(), ask()
	spoil(first)
	if slices.Contains(second[:cap(second)], spoilt) || slices.Contains(ask(), spoilt) {
		t.Fatal("two answers share memory")
	}
}
