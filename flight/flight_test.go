package flight

import (
	"math"
	"slices"
	"strconv"
	"testing"

	"tidemark/api"
)

// numbers are the edges of what a place or a turn may be told by.
var numbers = []int{math.MinInt, math.MinInt + 1, -1 << 32, -4, -3, -2, -1, 0, 1, 2, 3, 4, 5, 1 << 32, math.MaxInt - 1, math.MaxInt}

func flying(list ...string) *Flight {
	f := New()
	f.Send(list...)
	return f
}

// wantRow holds the flight to its whole row, told in all the ways there are (P15.3, P15.8).
func wantRow(t *testing.T, f *Flight, want ...string) {
	t.Helper()
	if got := f.Len(); got != len(want) {
		t.Errorf("Len() = %d, want %d", got, len(want))
	}
	if got := f.All(); !slices.Equal(got, want) {
		t.Errorf("All() = %q, want %q", got, want)
	}
	for i, m := range want {
		wantLook(t, f, i, m, api.OK)
	}
	wantLook(t, f, -1, "", api.ErrIndex)
	wantLook(t, f, len(want), "", api.ErrIndex)
}

func wantLook(t *testing.T, f *Flight, i int, want string, status api.Errno) {
	t.Helper()
	if m, e := f.Look(i); m != want || e != status {
		t.Errorf("Look(%d) = %q, %d, want %q, %d", i, m, e, want, status)
	}
}

func wantTake(t *testing.T, f *Flight, i int, want string, status api.Errno) {
	t.Helper()
	if m, e := f.Take(i); m != want || e != status {
		t.Errorf("Take(%d) = %q, %d, want %q, %d", i, m, e, want, status)
	}
}

func wantDrop(t *testing.T, f *Flight, i int, status api.Errno) {
	t.Helper()
	if e := f.Drop(i); e != status {
		t.Errorf("Drop(%d) = %d, want %d", i, e, status)
	}
}

func wantCopy(t *testing.T, f *Flight, i int, status api.Errno) {
	t.Helper()
	if e := f.Copy(i); e != status {
		t.Errorf("Copy(%d) = %d, want %d", i, e, status)
	}
}

func wantDrain(t *testing.T, f *Flight, turn int, want ...string) {
	t.Helper()
	if got := f.Drain(turn); !slices.Equal(got, want) {
		t.Errorf("Drain(%d) = %q, want %q", turn, got, want)
	}
	wantRow(t, f)
}

// P15.1 to P15.8, by the chapter's table.
func TestTheChaptersExamples(t *testing.T) {
	f := New()
	f.Send("a", "b")
	f.Send()
	f.Send("a")
	wantRow(t, f, "a", "b", "a")
	wantLook(t, f, 2, "a", api.OK)
	wantLook(t, f, 3, "", api.ErrIndex)
	wantLook(t, f, -1, "", api.ErrIndex)
	wantCopy(t, f, 1, api.OK)
	wantRow(t, f, "a", "b", "a", "b")
	wantTake(t, f, 0, "a", api.OK)
	wantRow(t, f, "b", "a", "b")
	wantDrop(t, f, 3, api.ErrIndex)
	wantDrop(t, f, 1, api.OK)
	wantRow(t, f, "b", "b")
	f.Send("c", "d")
	wantRow(t, f, "b", "b", "c", "d")
	wantDrain(t, f, 6, "c", "d", "b", "b")
	wantDrain(t, f, 1)
	f.Send("x", "y", "z")
	wantDrain(t, f, -1, "z", "x", "y")
}

// P15.1, P15.10
func TestANewFlightIsEmptyWhateverIsAsked(t *testing.T) {
	f := New()
	wantRow(t, f)
	for _, i := range numbers {
		wantLook(t, f, i, "", api.ErrIndex)
		wantTake(t, f, i, "", api.ErrIndex)
		wantDrop(t, f, i, api.ErrIndex)
		wantCopy(t, f, i, api.ErrIndex)
		wantDrain(t, f, i)
	}
}

// P15.2
func TestSendAddsBehindTheLastInTheOrderGiven(t *testing.T) {
	f := New()
	f.Send()
	f.Send(nil...)
	wantRow(t, f)
	f.Send("z")
	wantRow(t, f, "z")
	f.Send("y", "x", "w")
	wantRow(t, f, "z", "y", "x", "w")
	f.Send()
	wantRow(t, f, "z", "y", "x", "w")
	f.Send("a")
	wantRow(t, f, "z", "y", "x", "w", "a")
}

// P15.2
func TestAnyTextIsAMessageAndMayComeOnceMore(t *testing.T) {
	texts := []string{"", "\x00", "\xff\xfe", "a\nb", " ", "", "", "\x00"}
	f := flying(texts...)
	wantRow(t, f, texts...)
	wantTake(t, f, 0, "", api.OK)
	wantRow(t, f, texts[1:]...)
	wantCopy(t, f, 4, api.OK)
	wantRow(t, f, "\x00", "\xff\xfe", "a\nb", " ", "", "", "\x00", "")
	f.Send("")
	wantDrain(t, f, 0, "\x00", "\xff\xfe", "a\nb", " ", "", "", "\x00", "", "")
}

// P15.2, P15.9
func TestThereIsNoBoundOnHowManyThereAre(t *testing.T) {
	const many = 200000
	f := New()
	for i := range many {
		f.Send(strconv.Itoa(i))
	}
	if f.Len() != many {
		t.Fatalf("Len() = %d, want %d", f.Len(), many)
	}
	for i := range many {
		if m, e := f.Take(0); m != strconv.Itoa(i) || e != api.OK {
			t.Fatalf("Take(0) = %q, %d, want %d", m, e, i)
		}
	}
	wantRow(t, f)
}

// P15.3 to P15.6: at every place of rows of every small length, right or not.
func TestEveryPlaceOfAShortRow(t *testing.T) {
	for n := range 7 {
		var row []string
		for i := range n {
			row = append(row, string(rune('a'+i)))
		}
		for i := -2; i < n+2; i++ {
			everyCallAt(t, row, i)
		}
		for _, i := range []int{math.MinInt, math.MaxInt, n - 1<<32, n + 1<<32, -1 << 32, 1 << 32} {
			everyCallAt(t, row, i)
		}
	}
}

// everyCallAt holds each call at the place i to what it must make of the row.
func everyCallAt(t *testing.T, row []string, i int) {
	t.Helper()
	want, status, rest, longer := "", api.ErrIndex, row, row
	for at, m := range row {
		if at == i {
			want, status = m, api.OK
			rest = slices.Concat(row[:i], row[i+1:])
			longer = slices.Concat(row, []string{m})
		}
	}
	f := flying(row...)
	wantLook(t, f, i, want, status)
	wantRow(t, f, row...)
	wantTake(t, f, i, want, status)
	wantRow(t, f, rest...)
	f = flying(row...)
	wantDrop(t, f, i, status)
	wantRow(t, f, rest...)
	f = flying(row...)
	wantCopy(t, f, i, status)
	wantRow(t, f, longer...)
}

// P15.6
func TestACopyIsAMessageOfItsOwn(t *testing.T) {
	f := flying("a", "b")
	wantCopy(t, f, 0, api.OK)
	wantTake(t, f, 0, "a", api.OK)
	wantRow(t, f, "b", "a")
	wantCopy(t, f, 1, api.OK)
	wantDrop(t, f, 1, api.OK)
	wantRow(t, f, "b", "a")
	wantCopy(t, f, 2, api.ErrIndex)
	wantRow(t, f, "b", "a")
}

// P15.7
func TestDrainBeginsAtTheTurnAndGoesRoundTheEnd(t *testing.T) {
	for _, c := range []struct {
		turn int
		want []string
	}{
		{0, []string{"a", "b", "c"}}, {1, []string{"b", "c", "a"}}, {2, []string{"c", "a", "b"}},
		{3, []string{"a", "b", "c"}}, {4, []string{"b", "c", "a"}}, {5, []string{"c", "a", "b"}},
		{-1, []string{"c", "a", "b"}}, {-2, []string{"b", "c", "a"}}, {-3, []string{"a", "b", "c"}},
		{-4, []string{"c", "a", "b"}}, {300001, []string{"b", "c", "a"}}, {-300001, []string{"c", "a", "b"}},
		// 2^63 leaves the remainder 2 by three.
		{math.MaxInt, []string{"b", "c", "a"}}, {math.MaxInt - 1, []string{"a", "b", "c"}},
		{math.MinInt, []string{"b", "c", "a"}}, {math.MinInt + 1, []string{"c", "a", "b"}},
	} {
		wantDrain(t, flying("a", "b", "c"), c.turn, c.want...)
	}
}

// P15.7
func TestDrainOfOneOrTwo(t *testing.T) {
	for _, turn := range numbers {
		wantDrain(t, flying("a"), turn, "a")
		if turn&1 == 0 {
			wantDrain(t, flying("a", "b"), turn, "a", "b")
		} else {
			wantDrain(t, flying("a", "b"), turn, "b", "a")
		}
	}
}

// P15.7: the places are those of the row as it is then, not as it was sent.
func TestDrainCountsThePlacesThatAreThere(t *testing.T) {
	f := flying("a", "b", "c", "d", "e")
	wantTake(t, f, 0, "a", api.OK)
	wantDrop(t, f, 2, api.OK)
	wantCopy(t, f, 0, api.OK)
	wantRow(t, f, "b", "c", "e", "b")
	wantDrain(t, f, 6, "e", "b", "b", "c")
	f.Send("f", "g")
	wantRow(t, f, "f", "g")
	wantDrain(t, f, 0, "f", "g")
}

// P15.9: Messages that are taken at the place 0 alone come in the order in which they were sent or copied.
func TestTheFirstPlaceGivesTheOrderOfSending(t *testing.T) {
	f := flying("a", "b")
	wantTake(t, f, 0, "a", api.OK)
	f.Send("c")
	wantCopy(t, f, 0, api.OK)
	f.Send("d")
	for _, m := range []string{"b", "c", "b", "d"} {
		wantTake(t, f, 0, m, api.OK)
	}
	wantTake(t, f, 0, "", api.ErrIndex)
}

// A flight that New did not make is taken as an empty one.
func TestAFlightThatNewDidNotMake(t *testing.T) {
	for _, i := range numbers {
		var f Flight
		wantRow(t, &f)
		wantTake(t, &f, i, "", api.ErrIndex)
		wantDrop(t, &f, i, api.ErrIndex)
		wantCopy(t, &f, i, api.ErrIndex)
		wantDrain(t, &f, i)
		f.Send("a")
		wantRow(t, &f, "a")
	}
}
