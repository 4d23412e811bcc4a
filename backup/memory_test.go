package backup

import (
	"reflect"
	"slices"
	"testing"

	"tidemark/api"
)

// roomy gives a list with spare room, in which something stands.
func roomy[T any](list []T, spare T) []T {
	grown := append(make([]T, 0, len(list)+2), list...)
	return append(grown, spare, spare)[:len(list)]
}

// whole is a list with its spare room, in memory of its own.
func whole[T any](list []T) []T { return slices.Clone(list[:cap(list)]) }

// spoil writes over a list, spare room included.
func spoil[T any](list []T, with T) {
	list = list[:cap(list)]
	for i := range list {
		list[i] = with
	}
}

// P20.7: what is handed in is not changed, spare room included.
func TestNothingIsChanged(t *testing.T) {
	for seed := range int64(200) {
		d := newDice(seed)
		pairs := roomy(d.pairs(20), api.Pair{Key: "spare"})
		before := whole(pairs)
		text, _ := Write(d.usable(), pairs)
		Write(at(topWall, 0, 0), pairs)
		if !slices.Equal(whole(pairs), before) {
			t.Fatalf("seed %d: Write changes %q into %q", seed, before, whole(pairs))
		}
		c := d.config()
		c.Splits = roomy(c.Splits, "spare")
		splits := whole(c.Splits)
		Restore(c, text)
		if !slices.Equal(whole(c.Splits), splits) {
			t.Fatalf("seed %d: Restore changes %q into %q", seed, splits, whole(c.Splits))
		}
		r := d.result()
		for i := range r.Shards {
			r.Shards[i].Held = roomy([]api.Held{{At: at(19, 0, 0)}}, api.Held{Home: 9})
			r.Shards[i].Entries = roomy([]api.Entry{{At: at(19, 0, 0)}}, api.Entry{Home: 9})
		}
		r.Shards = roomy(r.Shards, api.Shown{Parked: 9})
		shown := whole(r.Shards)
		for i := range shown[:len(r.Shards)] {
			shown[i].Held, shown[i].Entries = whole(shown[i].Held), whole(shown[i].Entries)
		}
		Take(r, d.stamp())
		after := whole(r.Shards)
		for i := range after[:len(r.Shards)] {
			after[i].Held, after[i].Entries = whole(after[i].Held), whole(after[i].Entries)
		}
		if !reflect.DeepEqual(after, shown) {
			t.Fatalf("seed %d: Take changes what it was given", seed)
		}
	}
}

// P20.7: an answer is new memory.
func TestAnswersAreNew(t *testing.T) {
	list := numbered(40, "a")
	text, _ := Write(at(5, 0, 0), list)
	spoil(list, api.Pair{Key: "spoilt"})
	_, first, _ := Read(text)
	_, second, _ := Read(text)
	spoil(first, api.Pair{Key: "spoilt"})
	_, third, _ := Read(text)
	if !slices.Equal(second, numbered(40, "a")) || !slices.Equal(third, second) || slices.Contains(second[:cap(second)], api.Pair{Key: "spoilt"}) {
		t.Errorf("two Reads share memory: %q, %q", second, third)
	}
	one, _ := Restore(three(), text)
	two, _ := Restore(three(), text)
	spoil(one, "spoilt")
	again, _ := Restore(three(), text)
	if slices.Contains(two[:cap(two)], "spoilt") || slices.Contains(again, "spoilt") {
		t.Error("two Restores share memory")
	}
}
