package locks

import (
	"math/rand"
	"slices"
	"strings"
	"testing"

	"tidemark/api"
)

// model says by a plain list, sorted by id, what a table must answer.
type model []api.Held

// number makes ids and stamps of small parts comparable: their order is that of the numbers.
func number(high, low uint32) uint64 { return uint64(high)<<32 | uint64(low) }

func stampNumber(s api.Stamp) uint64 { return number(uint32(s.Wall), s.Logical<<16|s.Node) }

func in(key string, s api.Span) bool { return !(key < s.Lo) && (s.Hi == "" || key < s.Hi) }

// hits tells whether a key that one writes is written or read by the other one.
func hits(key string, h api.Held) bool {
	for _, w := range h.Writes {
		if w.Key == key {
			return true
		}
	}
	for _, s := range h.Reads {
		if in(key, s) {
			return true
		}
	}
	return false
}

func meet(a, b api.Held) bool {
	for _, w := range a.Writes {
		if hits(w.Key, b) {
			return true
		}
	}
	for _, w := range b.Writes {
		if hits(w.Key, a) {
			return true
		}
	}
	return false
}

func (m model) conflict(txn api.Txn, reads []api.Span, writes []api.Write) bool {
	asked := api.Held{Reads: reads, Writes: writes}
	return slices.ContainsFunc(m, func(h api.Held) bool { return h.Txn != txn && meet(h, asked) })
}

func (m model) find(txn api.Txn) int {
	return slices.IndexFunc(m, func(h api.Held) bool { return h.Txn == txn })
}

func (m *model) hold(h api.Held) api.Errno {
	if m.find(h.Txn) >= 0 {
		return api.ErrHeld
	}
	if m.conflict(h.Txn, h.Reads, h.Writes) {
		return api.ErrConflict
	}
	place := 0
	for _, other := range *m {
		if number(other.Txn.Client, other.Txn.Seq) < number(h.Txn.Client, h.Txn.Seq) {
			place++
		}
	}
	*m = slices.Insert(*m, place, h)
	return api.OK
}

func (m *model) release(txn api.Txn) bool {
	i := m.find(txn)
	if i < 0 {
		return false
	}
	*m = slices.Delete(*m, i, i+1)
	return true
}

func (m model) blocks(s api.Span, at api.Stamp) []api.Txn {
	var list []api.Txn
	for _, h := range m {
		if stampNumber(h.At) <= stampNumber(at) && slices.ContainsFunc(h.Writes, func(w api.Write) bool { return in(w.Key, s) }) {
			list = append(list, h.Txn)
		}
	}
	return list
}

var lifeKeys = []string{"", "\x00", "a", "a\x00", "ab", "b", "c", "d", "e", "f", "\x7f", "\x80", "\xff"}

func drawKey(r *rand.Rand) string { return lifeKeys[r.Intn(len(lifeKeys))] }

func drawSpan(r *rand.Rand) api.Span {
	if r.Intn(2) == 0 {
		return point(drawKey(r))
	}
	return span(drawKey(r), drawKey(r))
}

func drawStamp(r *rand.Rand) api.Stamp {
	return at(uint64(r.Intn(3)), uint32(r.Intn(2)), uint32(r.Intn(2)))
}

// drawHeld gives few reads and writes, so that many are held side by side.
func drawHeld(r *rand.Rand) api.Held {
	h := api.Held{Txn: id(uint32(r.Intn(4)), uint32(r.Intn(4))), Home: uint32(r.Intn(3)), At: drawStamp(r)}
	for range r.Intn(3) {
		h.Reads = append(h.Reads, drawSpan(r))
	}
	for range r.Intn(3) {
		h.Writes = append(h.Writes, api.Write{Key: drawKey(r), Delete: r.Intn(3) == 0, Value: strings.Repeat("v", r.Intn(2))})
	}
	return h
}

// wantAlike holds a table against the model, by every question.
func wantAlike(t *testing.T, r *rand.Rand, x *Table, m model) {
	t.Helper()
	wantAll(t, x, m...)
	for range 4 {
		h, s, when := drawHeld(r), drawSpan(r), drawStamp(r)
		wantConflict(t, x, h.Txn, h.Reads, h.Writes, m.conflict(h.Txn, h.Reads, h.Writes))
		wantBlocks(t, x, s, when, m.blocks(s, when)...)
		if m.find(h.Txn) < 0 {
			wantGet(t, x, h.Txn, api.Held{}, false)
		}
	}
}

// P10.4 to P10.9: whatever comes, no two that are held meet, and a Hold is refused for nothing else.
func TestLivesAreAsTheModelSays(t *testing.T) {
	most := 0
	for seed := range int64(400) {
		r := rand.New(rand.NewSource(seed))
		x, m := New(), model{}
		for step := range 40 {
			if r.Intn(4) == 0 {
				txn := drawHeld(r).Txn
				wantRelease(t, x, txn, m.release(txn))
			} else {
				h := drawHeld(r)
				wantHold(t, x, h, m.hold(h))
			}
			wantAlike(t, r, x, m)
			wantApart(t, x)
			if t.Failed() {
				t.Fatalf("seed %d, step %d", seed, step)
			}
			most = max(most, x.Len())
		}
	}
	if most < 6 {
		t.Errorf("at most %d are held at a time: too few to tell anything", most)
	}
}

// wantApart holds a table to P10.9's first sentence.
func wantApart(t *testing.T, x *Table) {
	t.Helper()
	all := x.All()
	for i, a := range all {
		for _, b := range all[:i] {
			if meet(a, b) {
				t.Errorf("%v and %v are held, and meet", a, b)
			}
		}
	}
}

// P10.9: behind Hold and Release every question is answered as before.
func TestHoldAndReleaseLeaveAllAsItWas(t *testing.T) {
	for seed := range int64(200) {
		r := rand.New(rand.NewSource(seed))
		x, m := New(), model{}
		for range 20 {
			h := drawHeld(r)
			if x.Hold(h) != api.OK {
				continue
			}
			wantRelease(t, x, h.Txn, true)
			wantAlike(t, r, x, m)
			for _, key := range lifeKeys {
				wantConflict(t, x, id(9, 9), nil, puts(key), m.conflict(id(9, 9), nil, puts(key)))
				wantConflict(t, x, id(9, 9), spans(point(key)), nil, m.conflict(id(9, 9), spans(point(key)), nil))
			}
			if r.Intn(2) == 0 {
				wantHold(t, x, h, m.hold(h))
			}
		}
		if t.Failed() {
			t.Fatalf("seed %d", seed)
		}
	}
}

// spoil overwrites a list with its spare room.
func spoil[E any](list []E, with E) {
	list = list[:cap(list)]
	for i := range list {
		list[i] = with
	}
}

func spoilHeld(h api.Held) {
	spoil(h.Reads, span("x", "y"))
	spoil(h.Writes, api.Write{Key: "x"})
}

// wantFirm holds a table of one to what it holds: x and y were only ever laid into lists that are not its own.
func wantFirm(t *testing.T, x *Table, h api.Held) {
	t.Helper()
	wantAll(t, x, h)
	wantConflict(t, x, id(9, 9), spans(point("x")), puts("x"), false)
	wantConflict(t, x, id(9, 9), nil, puts("r"), true)
	wantConflict(t, x, id(9, 9), nil, puts("w"), true)
	wantBlocks(t, x, point("w"), end, h.Txn)
	wantBlocks(t, x, point("x"), end)
}

// P10.10
func TestAnswersAreNewMemory(t *testing.T) {
	h := held(id(2, 1), 5, spans(point("r"), point("q"), point("p")), puts("v", "w", "u"))
	x := holding(t, h)
	early, _ := x.Get(h.Txn)
	all := x.All()
	got, _ := x.Get(h.Txn)
	spoilHeld(got)
	wantFirm(t, x, h)
	for _, told := range x.All() {
		spoilHeld(told)
	}
	wantFirm(t, x, h)
	spoil(x.All(), api.Held{Txn: id(9, 1)})
	spoil(x.Blocks(whole, end), id(9, 1))
	wantFirm(t, x, h)
	x.Release(h.Txn)
	wantHold(t, x, held(id(2, 1), 6, spans(point("a"), point("b"), point("c")), puts("d", "e", "f")), api.OK)
	if !sameHeld(early, h) || len(all) != 1 || !sameHeld(all[0], h) {
		t.Errorf("earlier answers have changed: %v, %v", early, all)
	}
}

// P10.10: nor do two lists within one answer share any.
func TestListsOfOneAnswerShareNothing(t *testing.T) {
	want := []api.Held{
		held(id(1, 1), 5, spans(point("r"), point("q"), point("p")), puts("a", "b", "c")), held(id(1, 2), 5, spans(point("r")), puts("d")),
		held(id(2, 1), 5, spans(point("r"), point("q")), puts("e", "f")), held(id(2, 2), 5, nil, nil),
	}
	x := holding(t, want...)
	for i := range want {
		all := x.All()
		spoilHeld(all[i])
		for k, h := range all {
			if k != i && !sameHeld(h, want[k]) {
				t.Errorf("%v has changed with %v", h, all[i])
			}
		}
	}
	wantAll(t, x, want...)
}

// P10.10
func TestWhatIsHandedInIsNotChangedAndNotKept(t *testing.T) {
	reads, writes := spans(point("r"), point("q"), span("spare", "")), puts("w", "v", "spare")
	h := held(id(2, 1), 5, slices.Clone(reads)[:2], slices.Clone(writes)[:2])
	want := held(id(2, 1), 5, reads[:2], writes[:2])
	x := holding(t, h)
	x.Hold(h)
	x.Conflict(id(2, 1), h.Reads, h.Writes)
	x.Conflict(id(3, 1), h.Reads, h.Writes)
	h.Txn = id(3, 1)
	x.Hold(h)
	if !slices.Equal(h.Reads[:3], reads) || !slices.Equal(h.Writes[:3], writes) {
		t.Errorf("what was handed in has changed: %q, %v", h.Reads[:3], h.Writes[:3])
	}
	spoilHeld(h)
	wantFirm(t, x, want)
	wantRelease(t, x, id(2, 1), true)
	wantConflict(t, x, id(9, 9), spans(whole), puts("r", "q", "w", "v"), false)
	if want := span("x", "y"); h.Reads[0] != want || h.Writes[0].Key != "x" {
		t.Errorf("Release has changed what Hold was handed: %v", h)
	}
}

// DOC.md, 'Nothing panics and everything ends'
func TestNothingPanics(t *testing.T) {
	odd := append([]string{strings.Repeat("k", 5000), strings.Repeat("\xff", 5000), "\xff\x00"}, lifeKeys...)
	stamps := []api.Stamp{{}, at(0, 0, 1), at(5, 0, 0), at(topWall, 0, 0), end}
	numbers := []uint32{0, 1, 2, 1 << 31, topNumber}
	r := rand.New(rand.NewSource(10))
	text := func() string { return odd[r.Intn(len(odd))] }
	when := func() api.Stamp { return stamps[r.Intn(len(stamps))] }
	txn := func() api.Txn { return id(numbers[r.Intn(len(numbers))], numbers[r.Intn(len(numbers))]) }
	for range 300 {
		x := &Table{}
		for range 30 {
			reads, writes := spans(span(text(), text()), point(text()))[:r.Intn(3)], puts(text(), text(), text())[:r.Intn(4)]
			Inside(text(), span(text(), text()))
			Overlap(span(text(), text()), span(text(), text()))
			x.Release(txn())
			x.Conflict(txn(), reads, writes)
			x.Blocks(span(text(), text()), when())
			x.Hold(api.Held{Txn: txn(), At: when(), Reads: reads, Writes: writes})
			x.Get(txn())
			if len(x.All()) != x.Len() {
				t.Fatalf("All() tells %d, Len() = %d", len(x.All()), x.Len())
			}
		}
	}
}
