package flight

import (
	"math/rand"
	"slices"
	"testing"

	"tidemark/api"
)

const (
	lives = 60
	steps = 300
)

// texts is short, so that many messages are alike.
var texts = []string{"", "a", "b", "\x00", "a longer one"}

// life is a flight beside what a plain list says of it, and all that ever came in and went out.
type life struct {
	t       *testing.T
	r       *rand.Rand
	f       *Flight
	row     []string
	in, out []string
	found   map[string]int
}

func (l *life) text() string { return texts[l.r.Intn(len(texts))] }

func (l *life) send() {
	var list []string
	for range l.r.Intn(4) {
		list = append(list, l.text())
	}
	l.f.Send(list...)
	l.row = slices.Concat(l.row, list)
	l.in = append(l.in, list...)
	l.found["sent"] += len(list)
}

// at draws a place, now and then a wrong one; of a right one it tells the message.
func (l *life) at() (i int, m string, status api.Errno) {
	i = l.r.Intn(len(l.row)+3) - 1
	for place, m := range l.row {
		if place == i {
			return i, m, api.OK
		}
	}
	l.found["wrong"]++
	return i, "", api.ErrIndex
}

func (l *life) take() {
	i, m, status := l.at()
	wantTake(l.t, l.f, i, m, status)
	l.gone(i, m, status)
}

func (l *life) drop() {
	i, m, status := l.at()
	wantDrop(l.t, l.f, i, status)
	l.gone(i, m, status)
}

func (l *life) gone(i int, m string, status api.Errno) {
	if status == api.OK {
		l.row = slices.Concat(l.row[:i], l.row[i+1:])
		l.out = append(l.out, m)
		l.found["gone"]++
	}
}

func (l *life) copy() {
	i, m, status := l.at()
	wantCopy(l.t, l.f, i, status)
	if status == api.OK {
		l.row = slices.Concat(l.row, []string{m})
		l.in = append(l.in, m)
		l.found["copied"]++
	}
}

func (l *life) drain() {
	turn := l.r.Intn(61) - 30
	var want []string
	// Thirty rounds more bring every turn that is drawn up to 0 at least.
	for i := range l.row {
		want = append(want, l.row[(turn+i+30*len(l.row))%len(l.row)])
	}
	wantDrain(l.t, l.f, turn, want...)
	if len(want) > 1 {
		l.found["drained"]++
	}
	l.row = nil
	l.out = append(l.out, want...)
}

// wantAllThere holds that what came in is what went out and what is there still (P15.9).
func (l *life) wantAllThere() {
	l.t.Helper()
	came, left := slices.Sorted(slices.Values(l.in)), slices.Sorted(slices.Values(slices.Concat(l.out, l.f.All())))
	if !slices.Equal(came, left) {
		l.t.Errorf("%d messages came in, and %d went out or are there still", len(came), len(left))
	}
}

func (l *life) step() {
	before := l.f.All()
	switch n := l.r.Intn(40); {
	case n < 16:
		l.send()
	case n < 24:
		l.take()
	case n < 30:
		l.drop()
	case n < 39:
		l.copy()
	default:
		l.drain()
	}
	// Without Take, Drop and Drain the row only grows at its end.
	if len(l.row) >= len(before) && !slices.Equal(l.f.All()[:len(before)], before) {
		l.t.Errorf("the row was %q, and is %q", before, l.f.All())
	}
	wantRow(l.t, l.f, l.row...)
	l.wantAllThere()
}

// P15.2 to P15.9, in lives that are drawn.
func TestDrawnLives(t *testing.T) {
	found := map[string]int{}
	for seed := range int64(lives) {
		l := &life{t: t, r: rand.New(rand.NewSource(seed)), f: New(), found: found}
		for range steps {
			l.step()
		}
		if t.Failed() {
			t.Fatalf("in the life of the seed %d", seed)
		}
	}
	for _, what := range []string{"sent", "gone", "copied", "drained", "wrong"} {
		if found[what] < lives {
			t.Errorf("only %d times: %s", found[what], what)
		}
	}
}
