package replica

import (
	"math/big"
	"math/rand"
	"slices"
	"strconv"
	"strings"
	"testing"

	"tidemark/api"
	"tidemark/backup"
)

// dice draws what replicas are handed, and scripts.
type dice struct{ *rand.Rand }

func newDice(seed int64) dice { return dice{rand.New(rand.NewSource(seed))} }

func (d dice) pick(list ...string) string { return list[d.Intn(len(list))] }

func (d dice) below(n int) string { return strconv.Itoa(d.Intn(n)) }

// anyStamp draws a stamp, often one near a carry or the end.
func (d dice) anyStamp() api.Stamp {
	small := func() uint32 {
		return []uint32{0, 1, topSmall, topSmall - 1, d.Uint32(), d.Uint32() >> d.Intn(32)}[d.Intn(6)]
	}
	wall := []uint64{0, 1, topWall, topWall - 1, d.Uint64(), d.Uint64() >> d.Intn(64), uint64(topSmall)}[d.Intn(7)]
	return at(wall, small(), small())
}

// near draws a stamp of a list, or one that is close to it.
func (d dice) near(list []api.Stamp) api.Stamp {
	n := rank(list[d.Intn(len(list))])
	switch d.Intn(5) {
	case 0:
		n.Add(n, big.NewInt(1))
	case 1:
		n.Sub(n, big.NewInt(1))
	case 2:
		n.Add(n, big.NewInt(int64(d.Intn(3))<<32))
	}
	if n.Sign() < 0 || n.BitLen() > 128 {
		return api.Stamp{}
	}
	return stampOf(n)
}

// above draws a stamp that is some way above another one, or the same.
func (d dice) above(s api.Stamp) api.Stamp {
	n := rank(s)
	switch d.Intn(6) {
	case 0:
		n.Add(n, big.NewInt(int64(d.Intn(3))))
	case 1:
		n.Add(n, big.NewInt(int64(d.Intn(3))<<32))
	default:
		n.Add(n, new(big.Int).Lsh(big.NewInt(int64(d.Intn(5))), 64))
	}
	if n.BitLen() > 128 {
		return s
	}
	return stampOf(n)
}

func (d dice) key() string {
	return d.pick("a", "a\x00", "b", "c", "cc", "\xff", strings.Repeat("k", maxKey))
}

func (d dice) value() string {
	return d.pick("", "1", "2", d.below(1000), strings.Repeat("v", maxValue))
}

func (d dice) span() api.Span {
	if d.Intn(3) == 0 {
		return api.Span{}
	}
	return api.Span{Lo: d.pick("", "a", "b", d.key()), Hi: d.pick("", "", "b", "c", d.key())}
}

func (d dice) version(s api.Stamp) api.Version {
	if d.Intn(4) == 0 {
		return deleted(d.key(), s)
	}
	return put(d.key(), d.value(), s)
}

// changes draws some from a bound on and below another one, in order.
func (d dice) changes(from, to api.Stamp) []api.Version {
	var list []api.Version
	s := from
	for range d.Intn(8) {
		if d.Intn(2) == 0 {
			s = d.above(s)
		}
		if below(s, to) && s.Wall != topWall {
			list = append(list, d.version(s))
		}
	}
	if d.Intn(25) == 0 && below(s, to) && s.Wall != topWall {
		list = append(list, numbered([]int{maxWrites + 1, 100, maxPairs + 5}[d.Intn(3)], s)...)
	}
	return sorted(list)
}

// spoiled draws a fault into changes, or more than one.
func (d dice) spoiled(list []api.Version, m *model) []api.Version {
	for range 1 + d.Intn(2) {
		v := d.version(d.near(m.stamps()))
		switch d.Intn(9) {
		case 0:
			v.Key = ""
		case 1:
			v.Key = strings.Repeat("k", maxKey+1)
		case 2:
			v.Value = strings.Repeat("v", maxValue+1)
		case 3:
			v = api.Version{Key: "a", At: v.At, Delete: true, Value: "x"}
		case 4:
			v.At.Wall = topWall
		case 5:
			if len(list) > 0 {
				v = list[d.Intn(len(list))]
			}
		case 6:
			if len(list) > 1 {
				i := d.Intn(len(list) - 1)
				list[i], list[i+1] = list[i+1], list[i]
			}
		}
		list = slices.Insert(list, d.Intn(len(list)+1), v)
	}
	return list
}

// text draws a backup, or what is none.
func (d dice) text() string {
	s := d.anyStamp()
	if s.Wall == topWall || d.Intn(2) == 0 {
		s = at(uint64(d.Intn(5)), 0, uint32(d.Intn(3)))
	}
	var list []api.Pair
	for _, key := range []string{"a", "b", "c", "cc", "\xff"} {
		if d.Intn(2) == 0 {
			list = append(list, api.Pair{Key: key, Value: d.value()})
		}
	}
	text, _ := backup.Write(s, list)
	if d.Intn(8) == 0 {
		i := d.Intn(len(text))
		return text[:i] + d.pick("", "x", "0") + text[i+1:]
	}
	return text
}

func wantSeen(t *testing.T, seen map[string]int, names ...string) {
	t.Helper()
	for _, name := range names {
		if seen[name] < 20 {
			t.Errorf("drawn too seldom: %s (%v)", name, seen)
		}
	}
}

// P23.1, beside the model.
func TestAfterOfAnyStamp(t *testing.T) {
	d := newDice(1)
	for range 20000 {
		s := d.anyStamp()
		if got := After(s); got != modelAfter(s) {
			t.Fatalf("After(%v) = %v, want %v", s, got, modelAfter(s))
		}
	}
}

// life is a replica and its model.
type life struct {
	*testing.T
	seed int64
	dice
	p    *Replica
	m    *model
	seen map[string]int
}

func (l life) count(what string, e api.Errno) { l.seen[what+" "+strconv.Itoa(int(e))]++ }

func (l life) feed() {
	bound := l.above(l.m.bound)
	if l.Intn(8) == 0 {
		bound = l.near(l.m.stamps())
	}
	list := l.changes(l.m.bound, bound)
	if l.Intn(3) == 0 {
		list = l.spoiled(list, l.m)
	}
	want, why := l.m.feed(list, bound)
	if e := l.p.Feed(list, bound); e != want {
		l.Fatalf("seed %d: Feed(%v, %v): %d, want %d: %s", l.seed, list, bound, e, want, why)
	}
	l.seen[why]++
}

func (l life) read() {
	span, s := l.span(), l.near(l.m.stamps())
	want, f := l.m.read(span, s)
	if pairs, e := l.p.Read(span, s); !slices.Equal(pairs, want) || e != f {
		l.Fatalf("seed %d: Read(%q, %v): %q, %d, want %q, %d", l.seed, span, s, pairs, e, want, f)
	}
	l.count("read", f)
	l.seen["pairs"] += min(len(want), 1)
}

func (l life) trim() {
	base := l.near(l.m.stamps())
	want, f := l.m.trim(base)
	if n, e := l.p.Trim(base); n != want || e != f {
		l.Fatalf("seed %d: Trim(%v): %d, %d, want %d, %d", l.seed, base, n, e, want, f)
	}
	l.count("trim", f)
	l.seen["gone"] += min(want, 1)
}

// save saves, and holds what is loaded of it to the same stamp's reads (P23.8).
func (l life) save() {
	s := l.near(l.m.stamps())
	want, f := l.m.save(s)
	text, e := l.p.Save(s)
	if text != want || e != f {
		l.Fatalf("seed %d: Save(%v): %q, %d, want %q, %d", l.seed, s, text, e, want, f)
	}
	l.count("save", f)
	if e != api.OK {
		return
	}
	q, e := Load(text)
	if e != api.OK {
		l.Fatalf("seed %d: what was saved at %v is not loaded: %d", l.seed, s, e)
	}
	span := l.span()
	pairs, e := l.p.Read(span, s)
	if again, f := q.Read(span, s); !slices.Equal(again, pairs) || e != f {
		l.Fatalf("seed %d: what was saved at %v reads %q, %d, want %q, %d", l.seed, s, again, f, pairs, e)
	}
}

// begin draws another replica in the place of this one.
func (l *life) begin() {
	if l.Intn(2) == 0 {
		l.p, l.m = New(), &model{}
		return
	}
	text := l.text()
	m, want := modelLoad(text)
	p, e := Load(text)
	if e != want || (p == nil) != (e != api.OK) {
		l.Fatalf("seed %d: Load(%q): %v, %d, want %d", l.seed, text, p, e, want)
	}
	l.count("load", e)
	if e == api.OK {
		l.p, l.m = p, m
	}
}

func (l life) compare() {
	if l.p.Base() != l.m.base || l.p.Bound() != l.m.bound || l.p.Len() != len(l.m.list) {
		l.Fatalf("seed %d: from %v to %v, %d versions, want from %v to %v, %d", l.seed, l.p.Base(), l.p.Bound(), l.p.Len(), l.m.base, l.m.bound, len(l.m.list))
	}
}

// P23.2 to P23.8: drawn lives of replicas beside the model.
func TestLives(t *testing.T) {
	seen := map[string]int{}
	for seed := range int64(1500) {
		l := &life{t, seed, newDice(seed), New(), &model{}, seen}
		l.begin()
		for range 60 {
			switch l.Intn(12) {
			case 0, 1, 2, 3:
				l.feed()
			case 4, 5, 6, 7:
				l.read()
			case 8, 9:
				l.save()
			case 10:
				if l.Intn(2) == 0 {
					l.trim()
				}
			case 11:
				if l.Intn(20) == 0 {
					l.begin()
				}
			}
			l.compare()
		}
	}
	wantSeen(t, seen, "fed", "the bound falls", "not good", "below the bound", "not below the new bound", "below the one ahead", "keys fall",
		"read 0", "read 90", "read 201", "read 142", "pairs", "trim 0", "trim 90", "trim 201", "gone", "save 0", "save 90", "save 201", "save 1", "load 0", "load 200")
}
