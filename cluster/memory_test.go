package cluster

import (
	"fmt"
	"reflect"
	"slices"
	"testing"

	"tidemark/api"
)

// plain is a deep copy of a value in which every list that is empty is nil.
func plain(v reflect.Value) reflect.Value {
	out := reflect.New(v.Type()).Elem()
	switch v.Kind() {
	case reflect.Slice:
		if v.Len() == 0 {
			return out
		}
		out.Set(reflect.MakeSlice(v.Type(), v.Len(), v.Len()))
		for i := range v.Len() {
			out.Index(i).Set(plain(v.Index(i)))
		}
	case reflect.Array:
		for i := range v.Len() {
			out.Index(i).Set(plain(v.Index(i)))
		}
	case reflect.Struct:
		for i := range v.NumField() {
			out.Field(i).Set(plain(v.Field(i)))
		}
	default:
		out.Set(v)
	}
	return out
}

// copied is a result of its own, in which every list that is empty is nil.
func copied(r api.Result) api.Result { return plain(reflect.ValueOf(r)).Interface().(api.Result) }

func same(a, b api.Result) bool { return reflect.DeepEqual(copied(a), copied(b)) }

func wantSame(t *testing.T, what string, got, want api.Result) {
	t.Helper()
	if !same(got, want) {
		t.Fatalf("%s: %+v, want %+v", what, got, want)
	}
}

// lists gives all lists of a value, those within others too.
func lists(v reflect.Value) []reflect.Value {
	var all []reflect.Value
	switch v.Kind() {
	case reflect.Slice:
		all = append(all, v)
		fallthrough
	case reflect.Array:
		for i := range v.Len() {
			all = append(all, lists(v.Index(i))...)
		}
	case reflect.Struct:
		for i := range v.NumField() {
			all = append(all, lists(v.Field(i))...)
		}
	}
	return all
}

// wantApart holds all lists of some results to sharing no memory, spare room included.
func wantApart(t *testing.T, results ...api.Result) {
	t.Helper()
	type room struct{ from, to uintptr }
	var rooms []room
	for _, l := range lists(reflect.ValueOf(results)) {
		if l.Cap() > 0 {
			from := l.Pointer()
			rooms = append(rooms, room{from, from + uintptr(l.Cap())*l.Type().Elem().Size()})
		}
	}
	slices.SortFunc(rooms, func(a, b room) int { return int(a.from) - int(b.from) })
	for i := 1; i < len(rooms); i++ {
		if rooms[i].from < rooms[i-1].to {
			t.Fatal("two lists share memory")
		}
	}
}

// spoil writes over all lists of a result, spare room included.
func spoil(r api.Result) {
	all := lists(reflect.ValueOf(r))
	for _, l := range slices.Backward(all) { // the inner ones first
		l = l.Slice(0, l.Cap())
		for i := range l.Len() {
			l.Index(i).SetZero()
		}
	}
}

// busy is a cluster of whose result no list is empty.
func busy(t *testing.T) *Cluster {
	c := started(t, done+" | begin 2 rw @2 | get 2 a | calm | calm | put 2 b 2 | put 2 z 2 | commit 2 | calm | wall 3 50 | begin 3 ro % | scan 3 % % 0 | take 0")
	r := c.Result()
	for _, l := range lists(reflect.ValueOf(r)) {
		if _, held := l.Interface().([]api.Held); held && l.Len() == 0 {
			t.Fatal("nothing is held")
		}
	}
	if len(r.Events) == 0 || len(r.Waiting) != 2 || len(r.Commits) == 0 || r.Flight == 0 {
		t.Fatalf("%+v", r)
	}
	return c
}

// P17.10: every list that is told is new memory.
func TestResultIsNew(t *testing.T) {
	c := busy(t)
	first := c.Result()
	keep := copied(first)
	second := c.Result()
	wantApart(t, first, second)
	spoil(first)
	wantSame(t, "a result beside one that is spoilt", second, keep)
	wantSame(t, "a result behind one that is spoilt", c.Result(), keep)
	twin := busy(t)
	for _, line := range script("calm | calm | round 0 | calm | commit 3 | calm | begin 3 rw @2 | scan 3 % % 0 | calm | calm") {
		spoil(c.Result())
		if a, b := c.Step(line), twin.Step(line); a != b {
			t.Errorf("%q is answered %d and %d", line, a, b)
		}
	}
	wantSame(t, "a run whose results are spoilt", c.Result(), twin.Result())
}

// P17.7, P17.10: Result changes nothing, and drawn runs tell new memory too.
func TestResultChangesNothing(t *testing.T) {
	for seed := range int64(40) {
		d := newDice(t, seed, everything, nil)
		d.h.every = true
		d.play(60)
		last := d.h.c.Result()
		wantApart(t, last, d.h.c.Result())
		alone, _ := Start(d.h.config)
		for _, line := range d.h.lines {
			alone.Step(line)
		}
		wantSame(t, fmt.Sprint("a run that tells nothing on its way, seed ", seed), alone.Result(), last)
	}
}

// P17.10: two clusters share nothing.
func TestClustersAreApart(t *testing.T) {
	a, b := newDice(t, 1, everything, nil), newDice(t, 1, everything, nil)
	a.play(10)
	for range 40 {
		a.play(2)
		b.play(1)
	}
	for _, d := range []*dice{a, b} {
		alone, _ := Start(d.h.config)
		for i, line := range d.h.lines {
			if e := alone.Step(line); e != d.h.status[i] {
				t.Errorf("%q is answered %d, alone %d", line, d.h.status[i], e)
			}
		}
		wantSame(t, "beside another cluster", d.h.c.Result(), alone.Result())
	}
}
