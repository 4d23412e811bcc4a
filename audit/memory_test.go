package audit

import (
	"reflect"
	"slices"
	"testing"

	"tidemark/api"
)

// roomy gives a list with spare room, in which something stands.
func roomy[T any](list []T, spare T) []T {
	grown := append(make([]T, 0, len(list)+2), list...)
	full := append(grown, spare, spare)
	return full[:len(list)]
}

// copied is the result with its spare room, in memory of its own.
func copied(r api.Result) api.Result {
	events := slices.Clone(r.Events[:cap(r.Events)])
	for i := range events {
		p := events[i].Answer.Pairs
		events[i].Answer.Pairs = slices.Clone(p[:cap(p)])
	}
	r.Events = events
	r.Commits = slices.Clone(r.Commits[:cap(r.Commits)])
	return r
}

// P18.6: what is handed in is not changed, spare room included; answers are new memory.
func TestMemory(t *testing.T) {
	for seed := range int64(300) {
		d := newDice(seed)
		r := d.run()
		if seed%3 > 0 {
			r = d.result()
			d.mend(&r)
		}
		for i := range r.Events {
			a := &r.Events[i].Answer
			a.Pairs = roomy(a.Pairs, api.Pair{Key: "spare", Value: "x"})
		}
		r.Events = roomy(r.Events, aborts(tt, api.OK))
		r.Commits = roomy(r.Commits, entry(tt, sb))
		before := copied(r)
		wantModel(t, d, r)
		CheckAll(roomy([]api.Result{r, r, r}, api.Result{}), 3)
		for range 4 {
			txn, at := d.txn(), d.stamp()
			wantNew(t, "Writes", func() []api.Write { return Writes(r, txn) }, api.Write{Key: "spoilt"})
			wantNew(t, "State", func() []api.Pair { return State(r, api.Span{}, at) }, api.Pair{Key: "spoilt"})
		}
		if !reflect.DeepEqual(copied(r), before) {
			t.Fatalf("seed %d: what was handed in is changed: %+v, was %+v", seed, copied(r), before)
		}
	}
}

// wantNew spoils an answer, spare room included, and asks again.
func wantNew[T comparable](t *testing.T, what string, ask func() []T, spoilt T) {
	t.Helper()
	first, second := ask(), ask()
	for i := range first[:cap(first)] {
		first[:cap(first)][i] = spoilt
	}
	if slices.Contains(second[:cap(second)], spoilt) || slices.Contains(ask(), spoilt) {
		t.Fatalf("%s: two answers share memory", what)
	}
}
