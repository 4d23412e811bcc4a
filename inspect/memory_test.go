package inspect

import (
	"reflect"
	"slices"
	"testing"

	"tidemark/api"
)

// roomy gives a list with spare room, in which something stands.
func roomy[T any](list []T, spare T) []T {
	grown := append(make([]T, 0, len(list)+2), list...)
	return append(grown, spare, spare)[:len(list)]
}

// whole is a list with its spare room, in memory of its own.
func whole[T any](list []T) []T { return slices.Clone(list[:cap(list)]) }

// spoil writes over a list, spare room included.
func spoil[T any](list []T, with T) {
	list = list[:cap(list)]
	for i := range list {
		list[i] = with
	}
}

// P24.8: a record that is told is not changed, spare room included.
func TestLineChangesNothing(t *testing.T) {
	for seed := range int64(500) {
		r := newDice(seed).anyRecord()
		r.Reads = roomy(r.Reads, api.Span{Lo: "spare"})
		r.Writes = roomy(r.Writes, put("spare", ""))
		reads, writes := whole(r.Reads), whole(r.Writes)
		if seed%5 == 0 {
			r.Kind++
		}
		before := r
		Line(r)
		if !sameRecord(r, before) || !slices.Equal(whole(r.Reads), reads) || !slices.Equal(whole(r.Writes), writes) {
			t.Fatalf("seed %d: Line makes of %+v %+v", seed, before, r)
		}
	}
}

// P24.8: the lists of a record that is read back are new memory.
func TestRecordsAreNew(t *testing.T) {
	const line = "prepare 2 1 0 5.0.1 read a b read c d read e f put a 1 put b 2 put c 3"
	first, _ := Unline(line)
	second, _ := Unline(line)
	spoil(first.Reads, api.Span{Lo: "spoilt"})
	spoil(first.Writes, put("spoilt", ""))
	third, _ := Unline(line)
	for _, r := range []api.Record{second, third} {
		if modelLine(r) != line || slices.Contains(whole(r.Reads), api.Span{Lo: "spoilt"}) || slices.Contains(whole(r.Writes), put("spoilt", "")) {
			t.Errorf("two answers of Unline share memory: %+v", r)
		}
	}
}

// P24.8: the lines of a disk are new memory.
func TestDumpsAreNew(t *testing.T) {
	for _, bytes := range []string{"", logged(t, reserved(5), marked(at(1, 0, 0))), logged(t, reserved(5), reserved(5))} {
		first, second := Dump(bytes, "x"), Dump(bytes, "x")
		want := slices.Clone(second)
		spoil(first, "spoilt")
		if slices.Contains(whole(second), "spoilt") || !slices.Equal(Dump(bytes, "x"), want) {
			t.Errorf("two answers of Dump share memory: %q", second)
		}
	}
}

// P24.4, P24.5, P24.8: a result is not changed, spare room included, and what is told of it is new memory.
func TestAResultIsNotChanged(t *testing.T) {
	for seed := range int64(300) {
		r := newDice(seed).result(t)
		for i := range r.Shards {
			r.Shards[i].Held = roomy(r.Shards[i].Held, api.Held{Home: 9})
			r.Shards[i].Entries = roomy(r.Shards[i].Entries, api.Entry{Home: 9})
		}
		r.Events = roomy(r.Events, api.Event{Asked: 9})
		r.Commits = roomy(r.Commits, api.Entry{Home: 9})
		r.Shards = roomy(r.Shards, api.Shown{Parked: 9})
		copied := func() api.Result {
			c := r
			c.Events, c.Commits, c.Shards = whole(r.Events), whole(r.Commits), whole(r.Shards)
			for i, s := range c.Shards {
				c.Shards[i].Held, c.Shards[i].Entries = whole(s.Held), whole(s.Entries)
			}
			return c
		}
		before := copied()
		Doctor(r)
		for shard := range r.Shards {
			first, second := Fate(r, shard), Fate(r, shard)
			want := slices.Clone(second)
			spoil(first, api.Entry{Home: 99})
			if slices.Contains(whole(second), api.Entry{Home: 99}) || !slices.Equal(Fate(r, shard), want) {
				t.Fatalf("seed %d: two answers of Fate share memory: %v", seed, second)
			}
		}
		if after := copied(); !reflect.DeepEqual(after, before) {
			t.Fatalf("seed %d: of %+v there is made %+v", seed, before, after)
		}
	}
}
