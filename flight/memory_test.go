package flight

import (
	"slices"
	"testing"

	"tidemark/api"
)

// spoil writes over a list and its spare room.
func spoil(list []string) {
	list = list[:cap(list)]
	for i := range list {
		list[i] = "spoilt"
	}
}

// P15.10, and DOC.md's rule of lists.
func TestAListThatWasHandedInIsNotKeptAndNotChanged(t *testing.T) {
	room := []string{"a", "b", "c", "d", "e", "f"}
	f := New()
	f.Send(room[1:3]...)
	f.Send("x", "y", "z")
	wantCopy(t, f, 0, api.OK)
	wantTake(t, f, 0, "b", api.OK)
	wantDrop(t, f, 2, api.OK)
	wantRow(t, f, "c", "x", "z", "b")
	if want := []string{"a", "b", "c", "d", "e", "f"}; !slices.Equal(room, want) {
		t.Errorf("what was handed in is now %q", room)
	}
	spoil(room)
	wantRow(t, f, "c", "x", "z", "b")
	f.Send(room[:1]...)
	spoil(room[1:])
	wantDrain(t, f, 1, "x", "z", "b", "spoilt", "c")
}

// P15.8, P15.10
func TestAListThatWasToldIsTheCallersOwn(t *testing.T) {
	f := flying("a", "b", "c")
	wantTake(t, f, 0, "a", api.OK)
	first, second := f.All(), f.All()
	spoil(first)
	if !slices.Equal(second, []string{"b", "c"}) {
		t.Errorf("the other list is now %q", second)
	}
	wantRow(t, f, "b", "c")
	f.Send("d")
	wantDrop(t, f, 0, api.OK)
	wantTake(t, f, 1, "d", api.OK)
	if !slices.Equal(second, []string{"b", "c"}) {
		t.Errorf("the list is now %q", second)
	}
	wantRow(t, f, "c")
	spoil(second)
	wantRow(t, f, "c")
}

// P15.7, P15.10
func TestAListThatWasDrainedIsTheCallersOwn(t *testing.T) {
	for _, turn := range []int{0, 1, 2} {
		f := flying("a", "b", "c")
		all := f.All()
		drained := f.Drain(turn)
		want := slices.Clone(drained)
		f.Send("d")
		f.Send("e", "f", "g")
		wantCopy(t, f, 0, api.OK)
		wantTake(t, f, 1, "e", api.OK)
		if !slices.Equal(drained, want) {
			t.Errorf("what was drained is now %q, want %q", drained, want)
		}
		spoil(drained)
		wantRow(t, f, "d", "f", "g", "d")
		if !slices.Equal(all, []string{"a", "b", "c"}) {
			t.Errorf("what was told is now %q", all)
		}
	}
}

// DOC.md's rule of lists, of an empty flight with spare room of its own.
func TestAnEmptyListHasNoRoomOfTheFlight(t *testing.T) {
	for _, tell := range []func(f *Flight) []string{(*Flight).All, func(f *Flight) []string { return f.Drain(0) }} {
		f := flying("a", "b", "c", "d")
		for f.Len() > 0 {
			wantDrop(t, f, f.Len()-1, api.OK)
		}
		list := tell(f)
		f.Send("e", "f")
		spoil(list)
		wantRow(t, f, "e", "f")
	}
}

// P15.10
func TestTwoFlightsShareNothing(t *testing.T) {
	list := []string{"a", "b"}
	one, two := flying(list...), flying(list...)
	one.Send("c")
	two.Send("x")
	wantTake(t, one, 0, "a", api.OK)
	wantDrop(t, two, 1, api.OK)
	wantRow(t, one, "b", "c")
	wantRow(t, two, "a", "x")
	three := New()
	three.Send(one.All()...)
	wantDrain(t, one, 0, "b", "c")
	one.Send("d", "e")
	wantRow(t, three, "b", "c")
	wantRow(t, two, "a", "x")
	wantRow(t, New())
}
