package stamp

import (
	"math/rand"
	"slices"
	"strings"
	"testing"

	"tidemark/api"
)

const (
	topWall    = uint64(18446744073709551615)
	topLogical = uint32(4294967295)
)

func st(wall uint64, logical, node uint32) api.Stamp {
	return api.Stamp{Wall: wall, Logical: logical, Node: node}
}

// rising has stamps in their order, with the edges of each field and numbers whose top bit would make them negative if they had a sign.
func rising() []api.Stamp {
	var list []api.Stamp
	for _, wall := range []uint64{0, 1, 255, 256, 1<<32 - 1, 1 << 32, 1<<63 - 1, 1 << 63, topWall - 1, topWall} {
		for _, logical := range []uint32{0, 1, 256, 1<<31 - 1, 1 << 31, topLogical} {
			for _, node := range []uint32{0, 1, 256, 1<<31 - 1, 1 << 31, topLogical} {
				list = append(list, st(wall, logical, node))
			}
		}
	}
	return list
}

func order(i, j int) int {
	if i < j {
		return -1
	}
	if i > j {
		return 1
	}
	return 0
}

func TestCompareAndLessFollowTheOrder(t *testing.T) { // P1.1
	list := rising()
	for i, a := range list {
		for j, b := range list {
			if got := Compare(a, b); got != order(i, j) {
				t.Fatalf("Compare(%v, %v) = %d, want %d", a, b, got, order(i, j))
			}
			if got := Less(a, b); got != (i < j) {
				t.Fatalf("Less(%v, %v) = %v", a, b, got)
			}
		}
	}
}

func TestCompareExamples(t *testing.T) { // P1.1
	for _, c := range []struct {
		a, b api.Stamp
		want int
	}{
		{st(5, 0, 9), st(5, 1, 0), -1},
		{st(5, 1, 0), st(5, 1, 0), 0},
		{st(topWall, 0, 0), st(1, topLogical, topLogical), 1},
		{st(5, 1, 2), st(5, 1, 1), 1},
		{st(4, 9, 9), st(5, 0, 0), -1},
	} {
		if got := Compare(c.a, c.b); got != c.want {
			t.Errorf("Compare(%v, %v) = %d, want %d", c.a, c.b, got, c.want)
		}
	}
	if Less(st(5, 1, 0), st(5, 1, 0)) {
		t.Error("a stamp is less than itself")
	}
}

func TestMaxOfAnyNumber(t *testing.T) { // P1.2
	for _, c := range []struct {
		list []api.Stamp
		want api.Stamp
	}{
		{nil, st(0, 0, 0)},
		{[]api.Stamp{}, st(0, 0, 0)},
		{[]api.Stamp{st(0, 0, 0)}, st(0, 0, 0)},
		{[]api.Stamp{st(7, 1, 2)}, st(7, 1, 2)},
		{[]api.Stamp{st(4, 9, 9), st(5, 0, 0), st(4, 10, 0)}, st(5, 0, 0)},
		{[]api.Stamp{st(9, 0, 0), st(8, 0, 0), st(7, 0, 0)}, st(9, 0, 0)},
		{[]api.Stamp{st(7, 0, 0), st(8, 0, 0), st(9, 0, 0)}, st(9, 0, 0)},
		{[]api.Stamp{st(1, 1, 1), st(1, 1, 1)}, st(1, 1, 1)},
		{[]api.Stamp{st(0, 0, 1), st(0, 0, 2), st(0, 0, 0)}, st(0, 0, 2)},
		{[]api.Stamp{st(1<<63, 0, 0), st(topWall, topLogical, topLogical), st(1, 0, 0)}, st(topWall, topLogical, topLogical)},
	} {
		if got := Max(c.list...); got != c.want {
			t.Errorf("Max(%v) = %v, want %v", c.list, got, c.want)
		}
	}
	if got := Max(); got != st(0, 0, 0) {
		t.Errorf("Max() = %v", got)
	}
}

func TestMaxLeavesItsListAlone(t *testing.T) { // P1.2
	room := []api.Stamp{st(3, 0, 0), st(9, 0, 0), st(1, 0, 0), st(12, 0, 0)}
	before := slices.Clone(room)
	if got := Max(room[:3]...); got != st(9, 0, 0) {
		t.Errorf("Max = %v, want {9 0 0}", got)
	}
	if !slices.Equal(room, before) {
		t.Errorf("Max changed its list: %v, was %v", room, before)
	}
}

func TestNext(t *testing.T) { // P1.3
	for _, c := range []struct {
		s    api.Stamp
		node uint32
		want api.Stamp
		e    api.Errno
	}{
		{st(0, 0, 0), 0, st(0, 1, 0), api.OK},
		{st(5, 7, 3), 2, st(5, 8, 2), api.OK},
		{st(5, 7, 2), 3, st(5, 8, 3), api.OK},
		{st(5, 7, 0), topLogical, st(5, 8, topLogical), api.OK},
		{st(5, topLogical-1, 3), 2, st(5, topLogical, 2), api.OK},
		{st(5, topLogical, 3), 2, st(6, 0, 2), api.OK},
		{st(1<<63-1, topLogical, 3), 2, st(1<<63, 0, 2), api.OK},
		{st(topWall-2, topLogical, 0), 1, st(topWall-1, 0, 1), api.OK},
		{st(topWall-1, 0, 0), 1, st(topWall-1, 1, 1), api.OK},
		{st(topWall-1, topLogical-1, 0), 1, st(topWall-1, topLogical, 1), api.OK},
		{st(topWall-1, topLogical, 0), 1, st(0, 0, 0), api.ErrExhausted},
		{st(topWall, 0, 0), 1, st(0, 0, 0), api.ErrExhausted},
		{st(topWall, 6, 0), 1, st(0, 0, 0), api.ErrExhausted},
		{st(topWall, topLogical, topLogical), 1, st(0, 0, 0), api.ErrExhausted},
	} {
		if got, e := Next(c.s, c.node); got != c.want || e != c.e {
			t.Errorf("Next(%v, %d) = %v, %d, want %v, %d", c.s, c.node, got, e, c.want, c.e)
		}
	}
}

func TestNextIsAboveAndUsable(t *testing.T) { // P1.3
	for _, s := range rising() {
		for _, node := range []uint32{0, 1, topLogical} {
			got, e := Next(s, node)
			if e == api.OK && (!Less(s, got) || got.Wall == topWall || got.Node != node) {
				t.Errorf("Next(%v, %d) = %v", s, node, got)
			}
			if e != api.OK && got != st(0, 0, 0) {
				t.Errorf("Next(%v, %d) = %v beside the error %d", s, node, got, e)
			}
		}
	}
}

func TestPackAndUnpackExamples(t *testing.T) { // P1.4
	for _, c := range []struct {
		s api.Stamp
		b string
	}{
		{st(0, 0, 0), strings.Repeat("\x00", 16)},
		{st(1, 2, 259), "\x00\x00\x00\x00\x00\x00\x00\x01\x00\x00\x00\x02\x00\x00\x01\x03"},
		{st(0x0102030405060708, 0x090a0b0c, 0x0d0e0f10), "\x01\x02\x03\x04\x05\x06\x07\x08\x09\x0a\x0b\x0c\x0d\x0e\x0f\x10"},
		{st(0x8081828384858687, 0xf0f1f2f3, 0xfcfdfeff), "\x80\x81\x82\x83\x84\x85\x86\x87\xf0\xf1\xf2\xf3\xfc\xfd\xfe\xff"},
		{st(topWall, topLogical, topLogical), strings.Repeat("\xff", 16)},
	} {
		if got := Pack(c.s); got != c.b {
			t.Errorf("Pack(%v) = %q, want %q", c.s, got, c.b)
		}
		if got, e := Unpack(c.b); got != c.s || e != api.OK {
			t.Errorf("Unpack(%q) = %v, %d, want %v", c.b, got, e, c.s)
		}
	}
}

func TestPackedStampsSortAsStampsDo(t *testing.T) { // P1.4
	list := rising()
	for i, a := range list {
		for j, b := range list {
			if got := strings.Compare(Pack(a), Pack(b)); got != order(i, j) {
				t.Fatalf("the bytes of %v and %v compare as %d, want %d", a, b, got, order(i, j))
			}
		}
	}
}

func TestEverySixteenBytesAreAStamp(t *testing.T) { // P1.4
	source := rand.New(rand.NewSource(4))
	for range 2000 {
		var b [16]byte
		source.Read(b[:])
		s, e := Unpack(string(b[:]))
		if e != api.OK || Pack(s) != string(b[:]) {
			t.Fatalf("Unpack(%q) = %v, %d, whose Pack is %q", b, s, e, Pack(s))
		}
	}
}

func TestUnpackRefusesOtherLengths(t *testing.T) { // P1.4
	for length := range 40 {
		if length == 16 {
			continue
		}
		b := strings.Repeat("\x01", length)
		if got, e := Unpack(b); got != st(0, 0, 0) || e != api.ErrStamp {
			t.Errorf("Unpack of %d bytes = %v, %d", length, got, e)
		}
	}
}

func TestTextAndParseExamples(t *testing.T) { // P1.5
	for _, c := range []struct {
		s    api.Stamp
		text string
	}{
		{st(0, 0, 0), "0.0.0"},
		{st(1, 0, 42), "1.0.42"},
		{st(10, 200, 3000), "10.200.3000"},
		{st(topWall, topLogical, 0), "18446744073709551615.4294967295.0"},
		{st(0, 0, topLogical), "0.0.4294967295"},
		{st(1<<63, 1<<31, 1<<31), "9223372036854775808.2147483648.2147483648"},
		{st(topWall, topLogical, topLogical), "18446744073709551615.4294967295.4294967295"},
	} {
		if got := Text(c.s); got != c.text {
			t.Errorf("Text(%v) = %q, want %q", c.s, got, c.text)
		}
		if got, e := Parse(c.text); got != c.s || e != api.OK {
			t.Errorf("Parse(%q) = %v, %d, want %v", c.text, got, e, c.s)
		}
	}
}

func TestParseUndoesText(t *testing.T) { // P1.5
	for _, s := range rising() {
		text := Text(s)
		if got, e := Parse(text); got != s || e != api.OK || len(text) > 42 {
			t.Errorf("Text(%v) = %q, and its Parse = %v, %d", s, text, got, e)
		}
	}
}

func TestParseRefuses(t *testing.T) { // P1.5
	for _, c := range []struct {
		why   string
		texts []string
	}{
		{"the empty text", []string{""}},
		{"a dot too few", []string{"1", "1.2", "123456"}},
		{"a dot too many", []string{"1.2.3.", ".1.2.3", "1.2.3.4", "1.2..3", "1..2.3", "0.0.0.0"}},
		{"a missing number", []string{".", "..", "...", "1..3", ".2.3", "1.2.", "1..", "..3"}},
		{"a leading zero", []string{"01.2.3", "1.02.3", "1.2.03", "00.0.0", "0.00.0", "0.0.00"}},
		{"a sign", []string{"+1.2.3", "-1.2.3", "1.+2.3", "1.2.-3", "-0.0.0", "1.2.+0"}},
		{"a blank", []string{" 1.2.3", "1.2.3 ", "1 .2.3", "1. 2.3", "1.2.3\n", "1.2.\t3"}},
		{"other bytes", []string{"1,2,3", "1.2.x", "a.2.3", "0x1.2.3", "1e1.2.3", "1_0.2.3", "1.2.3\x00", "\x001.2.3", "\xff.2.3", "\u0661.0.0", "1/2.0.0", "1:.0.0"}},
		{"a number that is too great", []string{"18446744073709551616.0.0", "99999999999999999999.0.0", "184467440737095516150.0.0", "1.4294967296.0", "1.0.4294967296", "1.18446744073709551615.0", "0.0.18446744073709551616"}},
		{"a text that is too long", []string{strings.Repeat("1", 43), "1.2.3" + strings.Repeat("0", 38), strings.Repeat("0", 38) + "1.2.3", strings.Repeat("1.", 100000)}},
	} {
		for _, text := range c.texts {
			if got, e := Parse(text); got != st(0, 0, 0) || e != api.ErrStamp {
				t.Errorf("%s: Parse(%.50q) = %v, %d", c.why, text, got, e)
			}
		}
	}
}

// What Parse takes is a stamp's text and nothing else, whatever one byte of it becomes.
func TestParseTakesTextsAlone(t *testing.T) { // P1.5
	for _, text := range []string{"0.0.0", "1.0.42", "10.200.3000", "18446744073709551615.4294967295.4294967295"} {
		for i := range len(text) {
			for b := range 256 {
				other := text[:i] + string([]byte{byte(b)}) + text[i+1:]
				got, e := Parse(other)
				if e == api.OK && Text(got) != other || e != api.OK && (e != api.ErrStamp || got != st(0, 0, 0)) {
					t.Fatalf("Parse(%q) = %v, %d", other, got, e)
				}
			}
		}
	}
}

func TestSortExamples(t *testing.T) { // P1.6
	for _, c := range []struct{ list, want []api.Stamp }{
		{nil, nil},
		{[]api.Stamp{}, nil},
		{[]api.Stamp{st(4, 4, 4)}, []api.Stamp{st(4, 4, 4)}},
		{[]api.Stamp{st(2, 0, 0), st(1, 5, 0), st(2, 0, 0)}, []api.Stamp{st(1, 5, 0), st(2, 0, 0), st(2, 0, 0)}},
		{[]api.Stamp{st(1, 1, 1), st(1, 1, 0), st(1, 0, 9), st(0, 9, 9)}, []api.Stamp{st(0, 9, 9), st(1, 0, 9), st(1, 1, 0), st(1, 1, 1)}},
	} {
		if got := Sort(c.list); !slices.Equal(got, c.want) {
			t.Errorf("Sort(%v) = %v, want %v", c.list, got, c.want)
		}
	}
}

func TestSortBringsAnyOrderBack(t *testing.T) { // P1.6
	source := rand.New(rand.NewSource(6))
	want := slices.Concat(rising(), rising()) // each twice
	slices.SortStableFunc(want, func(a, b api.Stamp) int { return strings.Compare(Pack(a), Pack(b)) })
	for range 20 {
		mixed := slices.Clone(want)
		source.Shuffle(len(mixed), func(i, j int) { mixed[i], mixed[j] = mixed[j], mixed[i] })
		if got := Sort(mixed); !slices.Equal(got, want) {
			t.Fatalf("Sort(%v) = %v", mixed, got)
		}
	}
}

func TestSortSharesNothing(t *testing.T) { // P1.6
	room := []api.Stamp{st(3, 0, 0), st(2, 0, 0), st(1, 0, 0), st(8, 0, 0), st(7, 0, 0)}
	before := slices.Clone(room)
	first, second := Sort(room[:3]), Sort(room[:3])
	for i := range first {
		first[i] = st(9, 9, 9)
	}
	_ = append(first, st(9, 9, 9))
	if !slices.Equal(room, before) {
		t.Errorf("Sort's list became %v, was %v", room, before)
	}
	if want := []api.Stamp{st(1, 0, 0), st(2, 0, 0), st(3, 0, 0)}; !slices.Equal(second, want) {
		t.Errorf("another answer became %v, was %v", second, want)
	}
	sorted := []api.Stamp{st(1, 0, 0), st(2, 0, 0)}
	Sort(sorted)[0] = st(9, 9, 9)
	if sorted[0] != st(1, 0, 0) {
		t.Error("the answer for a list that is rising already is that list itself")
	}
}
