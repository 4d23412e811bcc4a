package tuple

import (
	"math"
	"slices"
	"strconv"
	"strings"
	"testing"

	"tidemark/api"
)

func null() api.Value { return api.Value{Kind: 0} }

func flag(f bool) api.Value { return api.Value{Kind: 1, Flag: f} }

func number(n int64) api.Value { return api.Value{Kind: 2, Int: n} }

func word(s string) api.Value { return api.Value{Kind: 3, Text: s} }

func row(list ...api.Value) []api.Value { return list }

// notValid are the values that are none: of another kind, or with a field that their kind does not name.
func notValid() []api.Value {
	list := []api.Value{
		{Flag: true}, {Int: 1}, {Int: -1}, {Int: math.MinInt64}, {Text: "a"}, {Text: "\x00"},
		{Kind: 1, Int: 1}, {Kind: 1, Text: "a"}, {Kind: 1, Flag: true, Int: -1}, {Kind: 1, Flag: true, Text: "a"},
		{Kind: 2, Flag: true}, {Kind: 2, Text: "a"}, {Kind: 2, Int: 5, Flag: true}, {Kind: 2, Int: 5, Text: "5"},
		{Kind: 3, Flag: true}, {Kind: 3, Int: 1}, {Kind: 3, Text: "a", Flag: true}, {Kind: 3, Text: "a", Int: 1},
	}
	for _, kind := range []api.ValueKind{4, 5, 48, 255, 256, 257, 258, 259, 1 << 16, math.MaxInt32, math.MaxInt, -1, -2, -3, -4, -256, math.MinInt32, math.MinInt} {
		list = append(list, api.Value{Kind: kind}, api.Value{Kind: kind, Flag: true}, api.Value{Kind: kind, Int: 1}, api.Value{Kind: kind, Text: "a"})
	}
	return list
}

// inPlaces gives tuples in which a value stands, at any place of them.
func inPlaces(v api.Value) [][]api.Value {
	return [][]api.Value{row(v), row(v, null()), row(null(), v), row(word("a"), number(5), v), row(flag(true), v, number(-1)), row(v, v)}
}

// P25.1: what is valid, and what is not, at each place.
func TestValid(t *testing.T) {
	for _, v := range []api.Value{null(), flag(false), flag(true), number(0), number(1), number(-1), number(math.MaxInt64), number(math.MinInt64), word(""), word("a"), word("\x00"), word("\xff"), word(strings.Repeat("long ", 9999))} {
		for _, list := range inPlaces(v) {
			if e := Valid(list); e != api.OK {
				t.Errorf("Valid(%.99v) = %d", list, e)
			}
		}
	}
	for _, list := range [][]api.Value{nil, {}} {
		if e := Valid(list); e != api.OK {
			t.Errorf("Valid of the empty tuple = %d", e)
		}
	}
	for _, v := range notValid() {
		for _, list := range inPlaces(v) {
			if e := Valid(list); e != api.ErrArg {
				t.Errorf("Valid(%v) = %d", list, e)
			}
		}
	}
}

// P25.2, P25.7, P25.8: of a tuple that is not valid there is nothing.
func TestNothingOfWhatIsNotValid(t *testing.T) {
	for _, v := range notValid() {
		for _, list := range inPlaces(v) {
			if b, e := Encode(list); b != "" || e != api.ErrArg {
				t.Errorf("Encode(%v) = %x, %d", list, b, e)
			}
			if s, e := Span(list); s != (api.Span{}) || e != api.ErrArg {
				t.Errorf("Span(%v) = %q, %d", list, s, e)
			}
			if s, e := Text(list); s != "" || e != api.ErrArg {
				t.Errorf("Text(%v) = %q, %d", list, s, e)
			}
		}
	}
}

// rising are tuples in their order, with all that the order tells of.
func rising() [][]api.Value {
	list := [][]api.Value{nil, row(null()), row(null(), null()), row(null(), word("\xff")), row(flag(false)), row(flag(false), word("z")), row(flag(true)), row(flag(true), null())}
	for size := 63; size > 0; size-- {
		n := -(int64(1) << size) // the first one is the least integer
		list = append(list, row(number(n)), row(number(n), null()), row(number(n), word("\xff")))
		if size > 1 {
			list = append(list, row(number(n+1)))
		}
	}
	list = append(list, row(number(-1)), row(number(0)), row(number(0), number(0)), row(number(1)))
	for size := 1; size < 63; size++ {
		n := int64(1) << size
		if size > 1 {
			list = append(list, row(number(n-1)))
		}
		list = append(list, row(number(n)), row(number(n), null()), row(number(n), word("\xff")))
	}
	list = append(list, row(number(math.MaxInt64-1)), row(number(math.MaxInt64)))
	for _, s := range []string{"", "\x00", "\x00\x00", "\x00\x01", "\x00\x30", "\x00\xff", "\x01", "\x01\x00", "\x30", "a", "a\x00", "a\x00b", "a\x00\xff", "a\x01", "aa", "a\xff", "b", "\xff", "\xff\x00", "\xff\xff"} {
		list = append(list, row(word(s)), row(word(s), null()), row(word(s), number(-1)), row(word(s), word("")), row(word(s), word("\xff")))
	}
	return list
}

// P25.5, P25.6, P25.7: the order of tuples, that of their bytes, and which are in whose span.
func TestOrder(t *testing.T) {
	all := rising()
	for i, a := range all {
		lo, _ := Encode(a)
		s, e := Span(a)
		if e != api.OK || s != (api.Span{Lo: lo, Hi: lo + "\xff"}) {
			t.Errorf("Span(%v) = %q, %d", a, s, e)
		}
		for j, b := range all {
			want := 0
			if i < j {
				want = -1
			} else if i > j {
				want = 1
			}
			if got := Compare(a, b); got != want {
				t.Errorf("Compare(%v, %v) = %d, want %d", a, b, got, want)
			}
			bytes, _ := Encode(b)
			if got := strings.Compare(lo, bytes); got != want {
				t.Errorf("the bytes of %v and those of %v compare as %d", a, b, got)
			}
			if in := s.Lo <= bytes && bytes < s.Hi; in != modelBegins(b, a) {
				t.Errorf("the bytes of %v are in the span of %v: %v", b, a, in)
			}
		}
	}
}

// P25.5: the chapter's examples.
func TestCompareOfTheExamples(t *testing.T) {
	for _, c := range []struct {
		a, b []api.Value
		want int
	}{
		{row(word("a")), row(word("a"), null()), -1},
		{row(word("a\x00")), row(word("a"), number(9)), 1},
		{row(number(-256)), row(number(-255)), -1},
		{row(flag(true)), row(number(-5)), -1},
	} {
		if got := Compare(c.a, c.b); got != c.want {
			t.Errorf("Compare(%v, %v) = %d, want %d", c.a, c.b, got, c.want)
		}
		if got := Compare(c.b, c.a); got != -c.want {
			t.Errorf("Compare(%v, %v) = %d, want %d", c.b, c.a, got, -c.want)
		}
	}
}

// P25.5: values that are not valid have their place as well: by Kind, then Flag, then Int, then Text.
func TestCompareOfAnyValues(t *testing.T) {
	var all []api.Value
	for _, kind := range []api.ValueKind{math.MinInt, -256, -1, 0, 1, 2, 3, 4, 257, math.MaxInt} {
		for _, f := range []bool{false, true} {
			for _, n := range []int64{math.MinInt64, -1, 0, 1, math.MaxInt64} {
				for _, s := range []string{"", "\x00", "a", "a\x00", "b", "\xff"} {
					all = append(all, api.Value{Kind: kind, Flag: f, Int: n, Text: s})
				}
			}
		}
	}
	for i, a := range all {
		for j, b := range all {
			want := 0
			if i < j {
				want = -1
			} else if i > j {
				want = 1
			}
			if got := Compare(row(a), row(b)); got != want {
				t.Fatalf("Compare(%v, %v) = %d, want %d", a, b, got, want)
			}
			if i == j {
				want = -1
			}
			if got := Compare(row(null(), a), row(null(), b, null())); got != want {
				t.Fatalf("Compare of null and %v with null, %v and null = %d, want %d", a, b, got, want)
			}
		}
	}
}

// P25.5, P25.6, P25.7: drawn tuples that are like one another.
func TestDrawnOrder(t *testing.T) {
	seen := map[string]int{}
	for seed := range int64(40000) {
		d := newDice(seed)
		a, valid := d.tuple(), true
		if seed%4 == 0 {
			a, valid = d.anyTuple(), false
		}
		b := d.near(a)
		want := modelCompare(a, b)
		if got := Compare(a, b); got != want || Compare(b, a) != -want {
			t.Fatalf("seed %d: Compare(%v, %v) = %d, want %d", seed, a, b, got, want)
		}
		seen[strconv.Itoa(want)]++
		if !valid {
			continue
		}
		x, _ := Encode(a)
		y, _ := Encode(b)
		s, _ := Span(a)
		in := s.Lo <= y && y < s.Hi
		if strings.Compare(x, y) != want || in != modelBegins(b, a) {
			t.Fatalf("seed %d: the bytes of %v are %x, of %v %x", seed, a, x, b, y)
		}
		seen["in the span "+strconv.FormatBool(in)]++
	}
	wantSeen(t, seen, "-1", "0", "1", "in the span false", "in the span true")
}

// P25.7: the chapter's examples.
func TestSpanOfTheExamples(t *testing.T) {
	if s, e := Span(row(word("a"))); s != (api.Span{Lo: "\x30a\x00", Hi: "\x30a\x00\xff"}) || e != api.OK {
		t.Errorf("Span of 'a = %q, %d", s, e)
	}
	for _, none := range [][]api.Value{nil, {}} {
		if s, e := Span(none); s != (api.Span{Lo: "", Hi: "\xff"}) || e != api.OK {
			t.Errorf("Span of the empty tuple = %q, %d", s, e)
		}
	}
}

// P25.10: nothing that is handed in is changed, spare room included, and lists that are answered are new memory.
func TestMemory(t *testing.T) {
	for seed := range int64(2000) {
		d := newDice(seed)
		list := d.anyTuple()
		if seed%2 == 0 {
			list = d.tuple()
		}
		list = append(append(make([]api.Value, 0, len(list)+2), list...), word("spare"), word("spare"))[:len(list)]
		before := slices.Clone(list[:cap(list)])
		b, e := Encode(list)
		Valid(list)
		Span(list)
		Compare(list, list)
		s, _ := Text(list)
		if !slices.Equal(list[:cap(list)], before) {
			t.Fatalf("seed %d: of %v there is made %v", seed, before, list[:cap(list)])
		}
		if e != api.OK {
			continue
		}
		for _, read := range []func() ([]api.Value, api.Errno){func() ([]api.Value, api.Errno) { return Decode(b) }, func() ([]api.Value, api.Errno) { return Parse(s) }} {
			first, _ := read()
			second, _ := read()
			first = first[:cap(first)]
			for i := range first {
				first[i] = word("spoilt")
			}
			third, _ := read()
			if !slices.Equal(second, list) || !slices.Equal(third, list) || slices.Contains(second[:cap(second)], word("spoilt")) {
				t.Fatalf("seed %d: two answers share memory: %v, %v", seed, second, third)
			}
		}
	}
}
