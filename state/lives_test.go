package state

import (
	"math/rand"
	"slices"
	"strings"
	"testing"

	"tidemark/api"
)

// lifeKeys rise; there are few of them, so that transactions meet.
var lifeKeys = []string{"\x00", "a", "a\x00", "b", "m", "\xff"}

var lifeBounds = append([]string{"", "", "0", "aa", "c"}, lifeKeys...)

// drawStamp gives a stamp with a wall below top.
func drawStamp(r *rand.Rand, top int) api.Stamp {
	return at(uint64(r.Intn(top)), uint32(r.Intn(2)), uint32(r.Intn(2)))
}

// drawSpan gives any span, a valid one or not.
func drawSpan(r *rand.Rand) api.Span {
	return span(lifeBounds[r.Intn(len(lifeBounds))], lifeBounds[r.Intn(len(lifeBounds))])
}

// drawFootprint gives valid reads and writes, one of them at least.
func drawFootprint(r *rand.Rand) ([]api.Span, []api.Write) {
	var reads []api.Span
	var writes []api.Write
	for range r.Intn(3) {
		if s := drawSpan(r); s.Hi == "" && r.Intn(4) == 0 || s.Hi > s.Lo {
			reads = append(reads, s)
		} else {
			reads = append(reads, points(lifeKeys[r.Intn(len(lifeKeys))])...)
		}
	}
	for _, key := range lifeKeys {
		switch r.Intn(9) {
		case 0:
			writes = append(writes, api.Write{Key: key, Delete: true})
		case 1:
			writes = append(writes, api.Write{Key: key, Value: strings.Repeat(string(rune('a'+r.Intn(26))), r.Intn(3))})
		}
	}
	if len(reads)+len(writes) == 0 {
		return drawFootprint(r)
	}
	return reads, writes
}

func drawID(r *rand.Rand) api.Txn { return id(2+uint32(r.Intn(2)), 1+uint32(r.Intn(12))) }

// drawRecord gives a valid record that a state at that step takes now and then. Stamps rise with the steps.
func drawRecord(r *rand.Rand, m *model, step int) api.Record {
	switch r.Intn(9) {
	case 0:
		return reserve(m.ceiling + uint64(r.Intn(30)) - min(m.ceiling, 10))
	case 1:
		return mark(drawStamp(r, 2+step/2))
	case 2, 3, 4:
		reads, writes := drawFootprint(r)
		return prepare(drawID(r), uint32(r.Intn(2)), at(uint64(max(0, step-r.Intn(4))), uint32(r.Intn(2)), uint32(r.Intn(2))), reads, writes)
	case 5:
		return abort(drawID(r), uint32(r.Intn(2)))
	}
	if len(m.held) == 0 || r.Intn(4) == 0 {
		return commit(drawID(r), uint32(r.Intn(2)), drawStamp(r, 2+step))
	}
	h := m.held[r.Intn(len(m.held))]
	when := h.At
	switch r.Intn(4) {
	case 0:
		when = drawStamp(r, 2+step)
	case 1:
		when.Wall += uint64(r.Intn(4))
	}
	if r.Intn(8) == 0 {
		return commit(h.Txn, 1-h.Home, when)
	}
	return commit(h.Txn, h.Home, when)
}

// wantAlike holds a state against the model, by every question.
func wantAlike(t *testing.T, r *rand.Rand, s *State, m *model, top int) {
	t.Helper()
	wantContent(t, s, *m)
	if !m.sound() {
		t.Errorf("the content is not sound: %v", m)
	}
	if s.Image() != m.image() {
		t.Errorf("Image() = %x, want %x", s.Image(), m.image())
	}
	for range 4 {
		asked, when := drawSpan(r), drawStamp(r, top)
		list, e := m.read(asked, when)
		if got, f := s.Read(asked, when); f != e || !slices.Equal(got, list) {
			t.Errorf("Read(%q, %v) = %q, %d, want %q, %d", asked, when, got, f, list, e)
		}
		wantBlocks(t, s, asked, when, m.blocks(asked, when)...)
		txn := drawID(r)
		reads, writes := drawFootprint(r)
		wantCheck(t, s, txn, when, reads, writes, m.check(txn, when, reads, writes))
		if m.holding(txn) < 0 {
			wantNotHeld(t, s, txn)
		}
		if !m.decided(txn) {
			wantNoOutcome(t, s, txn)
		}
	}
}

// P13.2 to P13.8: whatever comes, and P13.5's last sentence: a state that was loaded in mid-life goes on as the first one does.
func TestLivesAreAsTheModelSays(t *testing.T) {
	taken := map[api.RecordKind][2]int{}
	for seed := range int64(400) {
		r := rand.New(rand.NewSource(seed))
		s, m := New(1), &model{node: 1}
		for step := range 50 {
			record := drawRecord(r, m, step)
			want := m.apply(record)
			counts := taken[record.Kind]
			if want == api.OK {
				counts[0]++
			} else {
				counts[1]++
			}
			taken[record.Kind] = counts
			wantApply(t, s, record, want)
			wantAlike(t, r, s, m, step+3)
			if r.Intn(8) == 0 {
				s = loaded(t, s.Image())
			}
			if t.Failed() {
				t.Fatalf("seed %d, step %d", seed, step)
			}
		}
	}
	for kind, counts := range taken {
		if counts[0] < 500 || counts[1] < 500 {
			t.Errorf("of kind %d %d are taken and %d refused: too few to tell anything", kind, counts[0], counts[1])
		}
	}
}

// life is a list of records that are all taken.
func life(r *rand.Rand, steps int) []api.Record {
	m := &model{node: 1}
	var records []api.Record
	for step := range steps {
		if record := drawRecord(r, m, step); m.apply(record) == api.OK {
			records = append(records, record)
		}
	}
	return records
}

// P13.9: an image may take the place of any beginning, and of a beginning that begins with one.
func TestACheckpointChangesNothing(t *testing.T) {
	for seed := range int64(60) {
		records := life(rand.New(rand.NewSource(seed)), 60)
		want := made(t, records...).Image()
		for i := range len(records) + 1 {
			first := append([]api.Record{image(made(t, records[:i]...).Image())}, records[i:]...)
			if got := made(t, first...).Image(); got != want {
				t.Fatalf("seed %d, place %d: %x, want %x", seed, i, got, want)
			}
			j := 1 + (len(first)-1)/2
			second := append([]api.Record{image(made(t, first[:j]...).Image())}, first[j:]...)
			if got := made(t, second...).Image(); got != want {
				t.Fatalf("seed %d, places %d and %d: %x, want %x", seed, i, j, got, want)
			}
		}
	}
}

// mapPairs tells what a plain map holds in a span.
func mapPairs(m map[string]string, s api.Span) []api.Pair {
	var list []api.Pair
	for _, key := range lifeKeys {
		if value, there := m[key]; there && in(key, s) {
			list = append(list, api.Pair{Key: key, Value: value})
		}
	}
	return list
}

// serial lays the writes of the commits up to a stamp on a plain map, in the order of their stamps.
func serial(records []api.Record, upTo api.Stamp) map[string]string {
	writes := map[api.Txn][]api.Write{}
	var commits []api.Record
	for _, r := range records {
		if r.Kind == api.RecPrepare {
			writes[r.Txn] = r.Writes
		}
		if r.Kind == api.RecDecide && r.Outcome == api.Committed && !below(upTo, r.At) {
			commits = append(commits, r)
		}
	}
	slices.SortStableFunc(commits, func(a, b api.Record) int {
		switch {
		case below(a.At, b.At):
			return -1
		case below(b.At, a.At):
			return 1
		}
		return 0
	})
	m := map[string]string{}
	for _, c := range commits {
		for _, w := range writes[c.Txn] {
			m[w.Key] = w.Value
			if w.Delete {
				delete(m, w.Key)
			}
		}
	}
	return m
}

// P13.10
func TestAReadIsTheSerialRunOfTheCommits(t *testing.T) {
	pairs := 0
	for seed := range int64(300) {
		r := rand.New(rand.NewSource(seed))
		records := life(r, 60)
		s := made(t, records...)
		for range 60 {
			asked, when := drawSpan(r), drawStamp(r, 64)
			if below(when, s.Watermark()) {
				continue
			}
			want := mapPairs(serial(records, when), asked)
			pairs += len(want)
			if got, e := s.Read(asked, when); e != api.OK || !slices.Equal(got, want) {
				t.Fatalf("seed %d: Read(%q, %v) = %q, %d, want %q of %v", seed, asked, when, got, e, want, records)
			}
		}
	}
	if pairs < 1000 {
		t.Errorf("%d pairs are read: too few to tell anything", pairs)
	}
}

// snapshot is what a read was answered while nothing blocked it.
type snapshot struct {
	span api.Span
	at   api.Stamp
	list []api.Pair
}

// P13.11
func TestASnapshotIsForGood(t *testing.T) {
	asked := 0
	for seed := range int64(300) {
		r := rand.New(rand.NewSource(seed))
		s, m := New(1), &model{node: 1}
		var kept []snapshot
		for step := range 60 {
			record := drawRecord(r, m, step)
			m.apply(record)
			if s.Apply(record) == api.OK {
				kept = slices.DeleteFunc(kept, func(k snapshot) bool {
					return record.Kind == api.RecPrepare && !below(k.at, record.At) || record.Kind == api.RecMark && below(k.at, record.At)
				})
			}
			for _, k := range kept {
				asked++
				if got, e := s.Read(k.span, k.at); e != api.OK || !slices.Equal(got, k.list) {
					t.Fatalf("seed %d, step %d: Read(%q, %v) = %q, %d, was %q", seed, step, k.span, k.at, got, e, k.list)
				}
			}
			k := snapshot{span: drawSpan(r), at: drawStamp(r, step+3)}
			if list, e := s.Read(k.span, k.at); e == api.OK && len(s.Blocks(k.span, k.at)) == 0 {
				k.list = list
				kept = append(kept, k)
			}
		}
	}
	if asked < 10000 {
		t.Errorf("%d reads are asked again: too few to tell anything", asked)
	}
}

// spoil overwrites a list with its spare room.
func spoil[E any](list []E, with E) {
	list = list[:cap(list)]
	for i := range list {
		list[i] = with
	}
}

func spoilHeld(h api.Held) {
	spoil(h.Reads, span("x", "y"))
	spoil(h.Writes, api.Write{Key: "x", Value: "x"})
}

// P13.12
func TestAnswersAreNewMemory(t *testing.T) {
	m := soundContent()
	m.mark = zero
	s := loaded(t, m.image())
	early := told(1, s)
	earlyHeld, _ := s.Get(id(2, 1))
	read := func() []api.Pair {
		list, _ := s.Read(whole, end)
		return list
	}
	earlyPairs, earlyIDs := read(), s.Blocks(whole, end)
	for range 2 {
		x := told(1, s)
		for _, h := range x.held {
			spoilHeld(h)
		}
		h, _ := s.Get(id(2, 1))
		spoilHeld(h)
		spoil(x.held, api.Held{Txn: id(9, 9)})
		spoil(x.entries, api.Entry{Txn: id(9, 9)})
		spoil(x.versions, version("x", last, "x"))
		spoil(read(), api.Pair{Key: "x"})
		spoil(s.Blocks(whole, end), id(9, 9))
		wantContent(t, s, m)
	}
	wantApply(t, s, commit(id(2, 1), 0, at(6, 0, 0)), api.OK)
	wantApply(t, s, abort(id(2, 300), 0), api.OK)
	wantApply(t, s, mark(at(6, 0, 0)), api.OK)
	if !early.same(m) || !sameHeld(earlyHeld, m.held[0]) {
		t.Errorf("earlier answers have changed: %v, %v", early, earlyHeld)
	}
	if len(earlyPairs) != 2 || earlyPairs[0] != (api.Pair{Key: "a", Value: "new"}) || !slices.Equal(earlyIDs, []api.Txn{id(2, 1), id(2, 300)}) {
		t.Errorf("earlier answers have changed: %v, %v", earlyPairs, earlyIDs)
	}
}

// P13.12 and DOC.md, 'Lists'
func TestWhatIsHandedInIsNotChangedAndNotKept(t *testing.T) {
	reads, writes := spans(span("r", "s"), span("t", "u"), span("spare", "t")), puts("a=1", "b", "spare=1")
	readRoom, writeRoom := slices.Clone(reads), slices.Clone(writes)
	records := []api.Record{reserve(10), prepare(t1, 1, at(5, 0, 1), reads[:2], writes[:2]), mark(at(1, 0, 0)), reserve(99)}
	first := slices.Clone(records)
	s, e := Replay(1, records[:3])
	if e != api.OK {
		t.Fatalf("Replay = %d", e)
	}
	wantCheck(t, s, t2, zero, nil, writes[:2], api.ErrConflict)
	wantCheck(t, s, t2, at(1, 0, 0), reads[:2], nil, api.OK)
	wantApply(t, s, prepare(t2, 1, at(5, 0, 1), reads[:2], writes[:2]), api.ErrBroken)
	if !slices.Equal(reads, readRoom) || !slices.Equal(writes, writeRoom) {
		t.Errorf("the lists have changed: %v, %v", reads, writes)
	}
	for i, r := range records {
		if r.Kind != first[i].Kind || r.Wall != first[i].Wall || r.At != first[i].At || r.Txn != first[i].Txn || len(r.Writes) != len(first[i].Writes) {
			t.Errorf("record %d has changed: %v", i, r)
		}
	}
	want := model{node: 1, ceiling: 10, mark: at(1, 0, 0), held: []api.Held{{Txn: t1, Home: 1, At: at(5, 0, 1), Reads: slices.Clone(readRoom[:2]), Writes: slices.Clone(writeRoom[:2])}}}
	spoil(reads, span("x", "y"))
	spoil(writes, api.Write{Key: "x", Value: "x"})
	spoil(records, api.Record{})
	wantContent(t, s, want)
	wantApply(t, s, commit(t1, 1, at(6, 0, 0)), api.OK)
	wantRead(t, s, whole, end, api.OK, "a=1")
}

// P13.12
func TestStatesShareNothing(t *testing.T) {
	m := soundContent()
	m.mark = zero
	states := []*State{loaded(t, m.image()), made(t, image(m.image())), loaded(t, m.image())}
	change := []api.Record{reserve(301), commit(id(2, 1), 0, at(6, 0, 0)), abort(id(2, 300), 0), prepare(t1, 1, at(300, 0, 0), nil, puts("c=1")), mark(at(6, 0, 0))}
	for _, s := range states[1:] {
		for _, r := range change {
			wantApply(t, s, r, api.OK)
		}
		wantContent(t, states[0], m)
	}
	for _, r := range change[:2] {
		wantApply(t, states[0], r, api.OK)
	}
	if states[1].Image() != states[2].Image() || states[0].Ceiling() != 301 || len(states[0].Held()) != 2 {
		t.Errorf("two states of the same records are not alike")
	}
	empty, other := New(1), New(1)
	wantApply(t, empty, reserve(9), api.OK)
	wantApply(t, empty, abort(t1, 1), api.OK)
	wantApply(t, empty, prepare(t2, 1, at(1, 0, 0), nil, puts("a=1")), api.OK)
	wantContent(t, other, model{node: 1})
}

// DOC.md, 'Nothing panics and everything ends'
func TestNothingPanics(t *testing.T) {
	texts := []string{"", "\x00", "a", "\xff", strings.Repeat("k", maxKey), strings.Repeat("k", maxKey+1), strings.Repeat("\xff", 5000), soundContent().image()}
	stamps := []api.Stamp{zero, at(0, 0, 1), at(5, 0, 0), at(0, topNumber, topNumber), last, at(topWall, 0, 0), end}
	numbers := []uint32{0, 1, 2, 1 << 31, topNumber}
	kinds := []api.RecordKind{1, 2, 3, 4, 5, 0, 6, -1, 1 << 62, -1 << 63}
	r := rand.New(rand.NewSource(13))
	draw := func() string { return texts[r.Intn(len(texts))] }
	when := func() api.Stamp { return stamps[r.Intn(len(stamps))] }
	n := func() uint32 { return numbers[r.Intn(len(numbers))] }
	for range 300 {
		s := New(n())
		for range 40 {
			reads := spans(span(draw(), draw()), span(draw(), ""))[:r.Intn(3)]
			writes := []api.Write{{Key: draw(), Value: draw(), Delete: r.Intn(2) == 0}, {Key: draw()}}[:r.Intn(3)]
			txn := id(n(), n())
			record := api.Record{Kind: kinds[r.Intn(len(kinds))]}
			switch record.Kind {
			case api.RecReserve:
				record.Wall = when().Wall
			case api.RecPrepare:
				record = prepare(txn, n(), when(), reads, writes)
			case api.RecDecide:
				record = api.Record{Kind: api.RecDecide, Txn: txn, Home: n(), Outcome: api.Outcome(r.Intn(4)), At: when()}
			case api.RecMark:
				record.At = when()
			case api.RecImage:
				record.Image = draw()
			default:
				record.Image, record.Reads, record.Outcome = draw(), reads, api.Outcome(n())
			}
			s.Apply(record)
			s.Check(txn, when(), reads, writes)
			s.Read(span(draw(), draw()), when())
			s.Blocks(span(draw(), draw()), when())
			s.Get(txn)
			s.Outcome(txn)
			Load(n(), draw())
		}
		if x, e := Load(s.node, s.Image()); e != api.OK || x.Image() != s.Image() {
			t.Fatalf("Load of %x: %d", s.Image(), e)
		}
	}
}
