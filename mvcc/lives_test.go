package mvcc

import (
	"cmp"
	"math/rand"
	"slices"
	"strings"
	"testing"

	"tidemark/api"
)

// model says by plain lists, without any order of their own, what a store must answer.
type model struct {
	all  []api.Version
	mark api.Stamp
}

// number makes stamps of small parts comparable: their order is that of the numbers.
func number(s api.Stamp) uint64 { return s.Wall<<32 | uint64(s.Logical)<<16 | uint64(s.Node) }

func (m *model) install(writes []api.Write, at api.Stamp) api.Errno {
	for _, w := range writes {
		for _, v := range m.all {
			if v.Key == w.Key && number(v.At) >= number(at) {
				return api.ErrOrder
			}
		}
	}
	for _, w := range writes {
		m.all = append(m.all, api.Version{Key: w.Key, At: at, Delete: w.Delete, Value: w.Value})
	}
	return api.OK
}

// newest tells the newest version of a key at a stamp.
func (m *model) newest(key string, at api.Stamp) (api.Version, bool) {
	var best api.Version
	there := false
	for _, v := range m.all {
		if v.Key == key && number(v.At) <= number(at) && (!there || number(v.At) > number(best.At)) {
			best, there = v, true
		}
	}
	return best, there
}

func in(key string, s api.Span) bool { return s.Lo <= key && (s.Hi == "" || key < s.Hi) }

func (m *model) read(s api.Span, at api.Stamp) ([]api.Pair, api.Errno) {
	if number(at) < number(m.mark) {
		return nil, api.ErrOld
	}
	var list []api.Pair
	for _, key := range lifeKeys {
		if v, there := m.newest(key, at); there && !v.Delete && in(key, s) {
			list = append(list, api.Pair{Key: key, Value: v.Value})
		}
	}
	return list, api.OK
}

func (m *model) above(s api.Span, at api.Stamp) bool {
	return slices.ContainsFunc(m.all, func(v api.Version) bool { return in(v.Key, s) && number(v.At) > number(at) })
}

func (m *model) prune(mark api.Stamp) int {
	if number(mark) <= number(m.mark) {
		return 0
	}
	m.mark = mark
	var left []api.Version
	for _, v := range m.all {
		best, there := m.newest(v.Key, mark)
		if number(v.At) > number(mark) || there && best == v && !v.Delete {
			left = append(left, v)
		}
	}
	gone := len(m.all) - len(left)
	m.all = left
	return gone
}

func (m *model) dump() []api.Version {
	list := slices.Clone(m.all)
	slices.SortFunc(list, func(a, b api.Version) int {
		if a.Key != b.Key {
			return strings.Compare(a.Key, b.Key)
		}
		return cmp.Compare(number(a.At), number(b.At))
	})
	return list
}

// lifeKeys rise; there are few of them, so that chains grow long.
var lifeKeys = []string{"\x00", "a", "a\x00", "ab", "b", "\x7f", "\x80", "\xff"}

var lifeBounds = append([]string{"", "", "0", "aa", "c", "\xff\xff"}, lifeKeys...)

func drawSpan(r *rand.Rand) api.Span {
	return span(lifeBounds[r.Intn(len(lifeBounds))], lifeBounds[r.Intn(len(lifeBounds))])
}

// drawStamp gives a stamp with a wall below top.
func drawStamp(r *rand.Rand, top int) api.Stamp {
	return at(uint64(r.Intn(top)), uint32(r.Intn(2)), uint32(r.Intn(2)))
}

func drawWrites(r *rand.Rand) []api.Write {
	var list []api.Write
	for _, key := range lifeKeys {
		switch r.Intn(8) {
		case 0:
			list = append(list, del(key))
		case 1, 2:
			list = append(list, put(key, strings.Repeat(string(rune('a'+r.Intn(26))), r.Intn(3))))
		}
	}
	return list
}

// wantAlike holds a store against the model, by every question.
func wantAlike(t *testing.T, r *rand.Rand, s *Store, m *model, top int) {
	t.Helper()
	wantAll(t, s, m.dump()...)
	if s.Watermark() != m.mark {
		t.Errorf("Watermark() = %v, want %v", s.Watermark(), m.mark)
	}
	for range 6 {
		asked, when := drawSpan(r), drawStamp(r, top)
		list, e := m.read(asked, when)
		if got, f := s.Read(asked, when); f != e || !slices.Equal(got, list) {
			t.Errorf("Read(%q, %v) = %q, %d, want %q, %d", asked, when, got, f, list, e)
		}
		wantAbove(t, s, asked, when, m.above(asked, when))
	}
}

// P9.2 to P9.8, and P9.8's last sentence: a store that was dumped and loaded in mid-life goes on as the first one does.
func TestLivesAreAsTheModelSays(t *testing.T) {
	for seed := range int64(300) {
		r := rand.New(rand.NewSource(seed))
		s, m := New(), &model{}
		for step := range 40 {
			top := 2 + step // the stamps mostly rise, so that installs mostly succeed
			if r.Intn(6) == 0 {
				mark := drawStamp(r, top)
				if got, want := s.Prune(mark), m.prune(mark); got != want {
					t.Errorf("Prune(%v) = %d, want %d", mark, got, want)
				}
			} else {
				writes, when := drawWrites(r), drawStamp(r, top)
				wantInstall(t, s, when, m.install(writes, when), writes...)
			}
			wantAlike(t, r, s, m, top+1)
			if r.Intn(8) == 0 {
				s = loaded(t, s.Watermark(), s.Dump()...)
			}
			if t.Failed() {
				t.Fatalf("seed %d, step %d", seed, step)
			}
		}
	}
}

// answered is what a read was answered OK.
type answered struct {
	span api.Span
	at   api.Stamp
	list []api.Pair
}

// P9.9, the first and the third: what was read stays so, whatever is installed above it and pruned up to it.
func TestAReadIsForGood(t *testing.T) {
	for seed := range int64(200) {
		r := rand.New(rand.NewSource(seed))
		s := New()
		var kept []answered
		for wall := uint64(2); wall < 40; wall += 2 {
			wantInstall(t, s, at(wall, 0, 0), api.OK, drawWrites(r)...)
			for range 3 {
				// Between this Install and the next one, or earlier.
				a := answered{span: drawSpan(r), at: at(wall+1-2*uint64(r.Intn(int(wall)/2)), uint32(r.Intn(3)), 0)}
				if list, e := s.Read(a.span, a.at); e == api.OK {
					a.list = list
					kept = append(kept, a)
				}
			}
			if r.Intn(4) == 0 {
				s.Prune(kept[r.Intn(len(kept))].at)
			}
			for _, a := range kept {
				got, e := s.Read(a.span, a.at)
				old := number(a.at) < number(s.Watermark())
				if old && e != api.ErrOld || !old && (e != api.OK || !slices.Equal(got, a.list)) {
					t.Fatalf("seed %d: Read(%q, %v) = %q, %d, was %q", seed, a.span, a.at, got, e, a.list)
				}
			}
		}
	}
}

// mapPairs tells what a plain map holds in a span.
func mapPairs(m map[string]string, s api.Span) []api.Pair {
	var list []api.Pair
	for key, value := range m {
		if in(key, s) {
			list = append(list, api.Pair{Key: key, Value: value})
		}
	}
	slices.SortFunc(list, func(a, b api.Pair) int { return strings.Compare(a.Key, b.Key) })
	return list
}

// P9.9, the second: rising installs are writes laid on a plain map.
func TestRisingInstallsAreAPlainMap(t *testing.T) {
	for seed := range int64(20) {
		r := rand.New(rand.NewSource(seed))
		s := New()
		maps := []map[string]string{{}}
		for wall := uint64(1); wall < 60; wall++ {
			state := map[string]string{}
			for key, value := range maps[wall-1] {
				state[key] = value
			}
			from := r.Intn(600)
			var writes []api.Write
			for i := range 16 {
				key := numbered(from + i)
				if r.Intn(5) == 0 {
					writes = append(writes, del(key))
					delete(state, key)
				} else {
					writes = append(writes, put(key, string(rune('0'+wall))))
					state[key] = string(rune('0' + wall))
				}
			}
			wantInstall(t, s, at(wall, 0, 0), api.OK, writes...)
			maps = append(maps, state)
		}
		for wall, state := range maps {
			for _, asked := range []api.Span{whole, span(numbered(r.Intn(600)), ""), span("", numbered(r.Intn(600)))} {
				want, e := mapPairs(state, asked), api.OK
				if len(want) > maxPairs {
					want, e = nil, api.ErrMany
				}
				if got, f := s.Read(asked, at(uint64(wall), 0, 0)); f != e || !slices.Equal(got, want) {
					t.Fatalf("seed %d: Read(%q, %d) = %q, %d, want %q, %d", seed, asked, wall, got, f, want, e)
				}
			}
		}
	}
}

// P9.10
func TestStoresShareNothing(t *testing.T) {
	all := []api.Version{version("a", at(1, 0, 0), "1"), version("a", at(2, 0, 0), "2"), version("b", at(1, 0, 0), "1")}
	first := loaded(t, api.Stamp{}, all...)
	for _, second := range []*Store{loaded(t, first.Watermark(), first.Dump()...), loaded(t, api.Stamp{}, all...)} {
		wantInstall(t, second, at(3, 0, 0), api.OK, put("a", "3"), del("b"), put("c", "3"))
		second.Prune(at(3, 0, 0))
		wantAll(t, first, all...)
		if first.Watermark() != (api.Stamp{}) {
			t.Errorf("Watermark() = %v", first.Watermark())
		}
	}
	second := loaded(t, api.Stamp{}, all...)
	wantInstall(t, first, at(3, 0, 0), api.OK, put("a", "x"))
	wantInstall(t, second, at(3, 0, 0), api.OK, put("a", "y"))
	wantRead(t, first, point("a"), at(3, 0, 0), "a=x")
	wantRead(t, second, point("a"), at(3, 0, 0), "a=y")
}

// spoil overwrites a list with its spare room.
func spoil[E any](list []E, with E) {
	list = list[:cap(list)]
	for i := range list {
		list[i] = with
	}
}

// P9.10
func TestAnswersAreNewMemory(t *testing.T) {
	all := []api.Version{version("a", at(1, 0, 0), "1"), version("a", at(2, 0, 0), "2"), version("a", at(3, 0, 0), "3"), tombstone("b", at(1, 0, 0)), version("c", at(1, 0, 0), "1")}
	s := loaded(t, api.Stamp{}, all...)
	other := s.Dump()
	spoil(s.Dump(), version("x", at(8, 0, 0), "x"))
	list, _ := s.Read(whole, at(9, 0, 0))
	spoil(list, api.Pair{Key: "x"})
	wantAll(t, s, all...)
	wantRead(t, s, whole, at(9, 0, 0), "a=3", "c=1")
	if !slices.Equal(other, all) {
		t.Errorf("an earlier answer of Dump has changed: %v", other)
	}
	wantInstall(t, s, at(4, 0, 0), api.OK, put("a", "4"))
	s.Prune(at(4, 0, 0))
	if !slices.Equal(other, all) {
		t.Errorf("an earlier answer of Dump has changed: %v", other)
	}
}

// P9.10
func TestADumpOfOneKeyIsNewMemory(t *testing.T) {
	s := New()
	var all []api.Version
	for wall := range uint64(6) {
		all = append(all, version("a", at(wall, 0, 0), "v"))
		wantInstall(t, s, at(wall, 0, 0), api.OK, put("a", "v"))
		early := s.Dump()
		spoil(s.Dump(), version("x", at(8, 0, 0), "x"))
		wantAll(t, s, all...)
		if !slices.Equal(early, all) {
			t.Errorf("an earlier answer of Dump has changed: %v", early)
		}
	}
}

// P9.10
func TestWhatIsHandedInIsNotChangedAndNotKept(t *testing.T) {
	room := []api.Write{put("a", "1"), del("b"), put("spare", "s")}
	writes := slices.Clone(room)
	s := New()
	wantInstall(t, s, at(1, 0, 0), api.OK, writes[:2]...)
	wantInstall(t, s, at(1, 0, 0), api.ErrOrder, writes[:2]...)
	if !slices.Equal(writes, room) {
		t.Errorf("Install has changed its writes: %v", writes)
	}
	spoil(writes, put("x", "x"))
	wantAll(t, s, version("a", at(1, 0, 0), "1"), tombstone("b", at(1, 0, 0)))

	all := []api.Version{version("a", at(1, 0, 0), "1"), version("a", at(2, 0, 0), "2"), version("spare", at(1, 0, 0), "s")}
	versions := slices.Clone(all)
	s = loaded(t, api.Stamp{}, versions[:2]...)
	wantInstall(t, s, at(3, 0, 0), api.OK, put("a", "3"), put("b", "3"))
	s.Prune(at(3, 0, 0))
	if !slices.Equal(versions, all) {
		t.Errorf("Load has changed its versions, or its store has: %v", versions)
	}
	s = loaded(t, api.Stamp{}, versions[:2]...)
	spoil(versions, version("x", at(9, 0, 0), "x"))
	wantAll(t, s, all[:2]...)
}

// P9.10
func TestNothingPanics(t *testing.T) {
	texts := []string{"", "\x00", "a", "\xff", strings.Repeat("k", maxKey), strings.Repeat("k", maxKey+1), strings.Repeat("\xff", 5000)}
	stamps := []api.Stamp{{}, at(0, 0, 1), at(5, 0, 0), at(0, topNumber, topNumber), last, at(topWall, 0, 0), end}
	r := rand.New(rand.NewSource(10))
	text := func() string { return texts[r.Intn(len(texts))] }
	when := func() api.Stamp { return stamps[r.Intn(len(stamps))] }
	for range 500 {
		s := New()
		for range 20 {
			s.Install([]api.Write{{Key: text(), Value: text(), Delete: r.Intn(2) == 0}, put(text(), "")}[:r.Intn(3)], when())
			s.Read(span(text(), text()), when())
			s.Above(span(text(), text()), when())
			if r.Intn(4) == 0 {
				s.Prune(when())
			}
			if next, e := Load(append(s.Dump(), version(text(), when(), text())), when()); e == api.OK {
				s = next
			}
		}
	}
}
