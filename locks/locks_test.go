package locks

import (
	"reflect"
	"slices"
	"strings"
	"testing"

	"tidemark/api"
)

const (
	topWall   = 1<<64 - 1
	topNumber = 1<<32 - 1
)

var (
	whole = api.Span{}
	end   = api.Stamp{Wall: topWall, Logical: topNumber, Node: topNumber}
)

func id(client, seq uint32) api.Txn { return api.Txn{Client: client, Seq: seq} }

func at(wall uint64, logical, node uint32) api.Stamp {
	return api.Stamp{Wall: wall, Logical: logical, Node: node}
}

func span(lo, hi string) api.Span { return api.Span{Lo: lo, Hi: hi} }

func point(key string) api.Span { return span(key, key+"\x00") }

func spans(list ...api.Span) []api.Span { return list }

func puts(keys ...string) []api.Write {
	var list []api.Write
	for _, key := range keys {
		list = append(list, api.Write{Key: key, Value: "v"})
	}
	return list
}

func held(txn api.Txn, wall uint64, reads []api.Span, writes []api.Write) api.Held {
	return api.Held{Txn: txn, Home: 1, At: at(wall, 0, 0), Reads: reads, Writes: writes}
}

// sameHeld takes a nil list and an empty one for the same.
func sameHeld(a, b api.Held) bool {
	return a.Txn == b.Txn && a.Home == b.Home && a.At == b.At && slices.Equal(a.Reads, b.Reads) && slices.Equal(a.Writes, b.Writes)
}

// holding is a table that holds these.
func holding(t *testing.T, list ...api.Held) *Table {
	t.Helper()
	x := New()
	for _, h := range list {
		wantHold(t, x, h, api.OK)
	}
	return x
}

func wantHold(t *testing.T, x *Table, h api.Held, want api.Errno) {
	t.Helper()
	if got := x.Hold(h); got != want {
		t.Errorf("Hold(%v) = %d, want %d", h, got, want)
	}
}

func wantRelease(t *testing.T, x *Table, txn api.Txn, want bool) {
	t.Helper()
	if got := x.Release(txn); got != want {
		t.Errorf("Release(%v) = %v, want %v", txn, got, want)
	}
}

func wantConflict(t *testing.T, x *Table, txn api.Txn, reads []api.Span, writes []api.Write, want bool) {
	t.Helper()
	if got := x.Conflict(txn, reads, writes); got != want {
		t.Errorf("Conflict(%v, %q, %v) = %v, want %v", txn, reads, writes, got, want)
	}
}

func wantBlocks(t *testing.T, x *Table, s api.Span, at api.Stamp, want ...api.Txn) {
	t.Helper()
	if got := x.Blocks(s, at); !slices.Equal(got, want) {
		t.Errorf("Blocks(%q, %v) = %v, want %v", s, at, got, want)
	}
}

func wantGet(t *testing.T, x *Table, txn api.Txn, want api.Held, there bool) {
	t.Helper()
	if got, ok := x.Get(txn); ok != there || !sameHeld(got, want) {
		t.Errorf("Get(%v) = %v, %v, want %v, %v", txn, got, ok, want, there)
	}
}

// wantAll holds a table against all that it must hold, rising by id.
func wantAll(t *testing.T, x *Table, want ...api.Held) {
	t.Helper()
	if got := x.All(); !slices.EqualFunc(got, want, sameHeld) {
		t.Errorf("All() = %v, want %v", got, want)
	}
	if got := x.Len(); got != len(want) {
		t.Errorf("Len() = %d, want %d", got, len(want))
	}
	for _, h := range want {
		wantGet(t, x, h.Txn, h, true)
	}
}

// P10.1 to P10.8: the chapter's examples, one behind the other.
func TestTheExamples(t *testing.T) {
	x := New()
	first := held(id(2, 1), 5, spans(span("a", "c")), puts("m"))
	wantHold(t, x, first, api.OK)
	wantConflict(t, x, id(3, 1), spans(span("a", "c")), nil, false)
	wantConflict(t, x, id(3, 1), nil, puts("b"), true)
	wantConflict(t, x, id(3, 1), spans(span("k", "")), nil, true)
	wantConflict(t, x, id(2, 1), spans(span("k", "")), puts("b", "m"), false)
	wantHold(t, x, held(id(3, 1), 6, nil, puts("m")), api.ErrConflict)
	wantHold(t, x, held(id(2, 1), 9, nil, nil), api.ErrHeld)
	wantAll(t, x, first)
	second := held(id(3, 1), 6, spans(span("n", "")), puts("c", "d"))
	wantHold(t, x, second, api.OK)
	wantAll(t, x, first, second)
	wantBlocks(t, x, whole, at(5, 0, 0), id(2, 1))
	wantBlocks(t, x, whole, at(6, 0, 0), id(2, 1), id(3, 1))
	wantBlocks(t, x, span("a", "b"), at(6, 0, 0))
	wantBlocks(t, x, point("d"), at(5, 0, 0))
	wantRelease(t, x, id(2, 1), true)
	wantRelease(t, x, id(2, 1), false)
	wantAll(t, x, second)
	wantGet(t, x, id(2, 1), api.Held{}, false)
}

// P10.1
func TestInside(t *testing.T) {
	long := strings.Repeat("k", 5000)
	for _, c := range []struct {
		key  string
		s    api.Span
		want bool
	}{
		{"a", span("a", "b"), true}, {"b", span("a", "b"), false}, {"zz", span("a", ""), true}, {"", span("", ""), true}, {"a", span("b", "a"), false},
		{"", span("", "\x00"), true}, {"", span("\x00", ""), false}, {"", span("b", "a"), false},
		{"a", span("a", "a"), false}, {"a\x00", span("a", "a"), false}, {"b", span("b", "a"), false},
		{"a", point("a"), true}, {"a\x00", point("a"), false}, {"", point(""), true}, {"\x00", point(""), false}, {"aa", point("a"), false},
		{"aa", span("a", "b"), true}, {"a\xff", span("a", "b"), true}, {"A", span("a", "b"), false},
		{"\x80", span("\x7f", "\xff"), true}, {"\x7f", span("\x80", ""), false}, {"\xff", span("\x7f", "\x80"), false}, {"\xff\xff", whole, true},
		{long, span("k", "l"), true}, {long, span(long, ""), true}, {long, span("", long), false}, {long + "\x00", span(long, long+"\x01"), true}, {"k", span(long, ""), false},
	} {
		if got := Inside(c.key, c.s); got != c.want {
			t.Errorf("Inside(%.20q, %.20q) = %v", c.key, c.s, got)
		}
	}
}

// texts gives all texts of up to two of a few bytes.
func texts() []string {
	letters := []string{"\x00", "a", "b", "\x80", "\xff"}
	list := append([]string{""}, letters...)
	for _, first := range letters {
		for _, second := range letters {
			list = append(list, first+second)
		}
	}
	return list
}

// P10.2: these texts hold every Lo of these spans, so that two spans with a text in common have one of them in common.
func TestOverlapIsToHaveATextInCommon(t *testing.T) {
	all := texts()
	inside := map[api.Span][]int{} // by span: the texts inside, by number
	var list []api.Span
	for _, lo := range all {
		for _, hi := range all {
			s := span(lo, hi)
			list = append(list, s)
			for i, key := range all {
				if strings.Compare(key, lo) >= 0 && (len(hi) == 0 || strings.Compare(key, hi) < 0) {
					inside[s] = append(inside[s], i)
				}
			}
		}
	}
	for i, a := range list {
		for _, b := range list[i%7:] {
			want := slices.ContainsFunc(inside[a], func(k int) bool { return slices.Contains(inside[b], k) })
			if got := Overlap(a, b); got != want {
				t.Fatalf("Overlap(%q, %q) = %v", a, b, got)
			}
		}
	}
}

// P10.2: the edges that the chapter names, either way round.
func TestOverlap(t *testing.T) {
	long := strings.Repeat("k", 5000)
	for _, c := range []struct {
		a, b api.Span
		want bool
	}{
		{span("a", "c"), span("b", ""), true}, {span("a", "b"), span("b", "c"), false}, {span("b", "b"), span("a", "c"), false}, {span("c", "b"), span("a", "d"), false},
		{span("c", "b"), span("c", "b"), false}, {span("b", "b"), span("b", "b"), false}, {span("c", "a"), whole, false}, {span("b", "a"), span("", "c"), false},
		{whole, whole, true}, {whole, span("\xff", ""), true}, {whole, span("", "\x00"), true}, {span("", "a"), span("a", ""), false}, {span("a", ""), span("b", ""), true},
		{point("a"), point("a"), true}, {point("a"), point("a\x00"), false}, {point("a"), point("b"), false}, {point("b"), span("a", "c"), true}, {point("c"), span("a", "c"), false},
		{span("a", "d"), span("b", "c"), true}, {span("a", "b"), span("c", "d"), false}, {span("\x7f", "\x80"), span("\x80", "\xff"), false}, {span("\x7f", "\x81"), span("\x80", "\xff"), true},
		{span("k", "l"), span(long, ""), true}, {point(long), span("", long), false}, {point(long), point(long), true},
	} {
		if Overlap(c.a, c.b) != c.want || Overlap(c.b, c.a) != c.want {
			t.Errorf("Overlap(%.20q, %.20q) is not %v both ways", c.a, c.b, c.want)
		}
	}
}

// P10.3
func TestANewTableHoldsNothing(t *testing.T) {
	for _, x := range []*Table{New(), {}} {
		wantAll(t, x)
		wantConflict(t, x, id(1, 1), spans(whole), puts("", "a"), false)
		wantBlocks(t, x, whole, end)
		wantGet(t, x, api.Txn{}, api.Held{}, false)
		wantRelease(t, x, api.Txn{}, false)
		wantRelease(t, x, id(1, 1), false)
		h := held(id(1, 1), 1, spans(whole), puts("a"))
		wantHold(t, x, h, api.OK)
		wantAll(t, x, h)
	}
}

// P10.3: and what is held in one is not held in another.
func TestTablesAreApart(t *testing.T) {
	h := held(id(1, 1), 1, spans(point("r")), puts("w"))
	first, second := holding(t, h), New()
	wantAll(t, second)
	wantConflict(t, second, id(2, 1), spans(whole), puts("r", "w"), false)
	wantHold(t, second, h, api.OK)
	wantRelease(t, first, id(1, 1), true)
	wantAll(t, second, h)
	wantBlocks(t, second, whole, end, id(1, 1))
}

// P10.4
func TestWhatMeets(t *testing.T) {
	x := holding(t,
		held(id(2, 1), 5, spans(span("a", "c"), point("e")), puts("m", "o")),
		held(id(2, 2), 6, spans(span("a", "b"), span("t", "s"), span("u", "u")), []api.Write{{Key: "x", Delete: true}, {Key: ""}}))
	for _, c := range []struct {
		reads  []api.Span
		writes []api.Write
		want   bool
	}{
		{nil, nil, false},
		// What is read by both is no meeting.
		{spans(span("a", "c"), point("e")), nil, false},
		{spans(span("a", "m"), span("m\x00", "o"), span("o\x00", "x"), span("x\x00", "")), nil, false},
		// A key that is written against a span that is read.
		{nil, puts("a"), true}, {nil, puts("b"), true}, {nil, puts("b\xff"), true}, {nil, puts("c"), false}, {nil, puts("\x01", "A"), false},
		{nil, puts("e"), true}, {nil, puts("e\x00"), false}, {nil, puts("d", "e", "f"), true}, {nil, puts("d", "f"), false},
		{nil, []api.Write{{Key: "e", Delete: true}}, true}, {nil, puts("s", "t", "u"), false},
		// A key that both write.
		{nil, puts("m"), true}, {nil, puts("n", "o"), true}, {nil, puts("o", "n"), true}, {nil, puts("m\x00", "n", "l"), false}, {nil, puts("x"), true}, {nil, puts(""), true},
		{nil, []api.Write{{Key: "m", Delete: true}}, true}, {nil, []api.Write{{Key: "x", Delete: true}}, true},
		// A span that is read against a key that is written.
		{spans(span("k", "")), nil, true}, {spans(span("k", "n")), nil, true}, {spans(span("k", "m")), nil, false}, {spans(span("n", "o")), nil, false}, {spans(span("n", "o\x00")), nil, true},
		{spans(point("x")), nil, true}, {spans(point("w"), point("y")), nil, false}, {spans(point("w"), point("x")), nil, true}, {spans(span("", "\x00")), nil, true}, {spans(point("")), nil, true},
		{spans(span("z", "a"), span("o", "m"), span("m", "m")), nil, false},
		// Both at once.
		{spans(point("n")), puts("l", "n"), false}, {spans(point("n")), puts("l", "m"), true}, {spans(point("m")), puts("l", "n"), true},
	} {
		for _, txn := range []api.Txn{{}, id(1, 1), id(2, 3), id(3, 1), id(3, 2), id(topNumber, topNumber)} {
			wantConflict(t, x, txn, c.reads, c.writes, c.want)
		}
	}
}

// P10.4
func TestWhatATransactionHoldsItselfDoesNotCount(t *testing.T) {
	x := holding(t, held(id(2, 1), 5, spans(span("a", "c")), puts("a", "m")), held(id(3, 2), 5, spans(span("e", "g")), puts("o")))
	wantConflict(t, x, id(2, 1), spans(span("", "d"), point("m")), puts("b", "m", "a"), false)
	wantConflict(t, x, id(3, 2), spans(span("n", "")), puts("f", "o"), false)
	for _, other := range []api.Txn{id(2, 2), id(3, 1), id(1, 2)} {
		wantConflict(t, x, other, nil, puts("b"), true)
		wantConflict(t, x, other, nil, puts("m"), true)
		wantConflict(t, x, other, spans(point("m")), nil, true)
	}
	// Beside its own there is still the other one's.
	wantConflict(t, x, id(2, 1), nil, puts("b", "m", "f"), true)
	wantConflict(t, x, id(2, 1), nil, puts("b", "m", "o"), true)
	wantConflict(t, x, id(2, 1), spans(span("m", "")), nil, true)
	wantConflict(t, x, id(3, 2), spans(span("a", "b"), point("o")), nil, true)
}

// P10.4
func TestConflictChangesNothing(t *testing.T) {
	all := []api.Held{held(id(2, 1), 5, spans(span("a", "c")), puts("m")), held(id(2, 2), 5, nil, puts("n"))}
	x := holding(t, all...)
	for _, txn := range []api.Txn{id(2, 1), id(2, 2), id(3, 1)} {
		x.Conflict(txn, spans(whole), puts("b", "m", "z"))
		x.Conflict(txn, spans(point("q")), puts("r"))
		wantAll(t, x, all...)
		wantBlocks(t, x, whole, end, id(2, 1), id(2, 2))
		wantConflict(t, x, id(4, 1), spans(point("r"), point("z")), puts("q", "r", "z"), false)
	}
}

// P10.5
func TestHoldTellsTheFirstOfItsErrors(t *testing.T) {
	all := []api.Held{held(id(2, 1), 5, spans(span("a", "c")), puts("m")), held(id(3, 1), 5, spans(point("r")), puts("w"))}
	x := holding(t, all...)
	for _, c := range []struct {
		h    api.Held
		want api.Errno
	}{
		{all[0], api.ErrHeld}, {held(id(2, 1), 9, nil, nil), api.ErrHeld}, {held(id(2, 1), 9, nil, puts("m", "n")), api.ErrHeld},
		{held(id(2, 1), 9, nil, puts("w")), api.ErrHeld}, {held(id(2, 1), 9, spans(whole), puts("r")), api.ErrHeld},
		{held(id(2, 2), 9, nil, puts("m")), api.ErrConflict}, {held(id(4, 1), 9, nil, puts("x", "b")), api.ErrConflict}, {held(id(4, 1), 9, spans(point("x"), whole), nil), api.ErrConflict},
		{held(id(1, 2), 0, spans(point("x")), puts("s", "w", "z")), api.ErrConflict},
	} {
		wantHold(t, x, c.h, c.want)
		wantAll(t, x, all...)
		wantBlocks(t, x, whole, end, id(2, 1), id(3, 1))
		wantConflict(t, x, id(9, 9), spans(point("n"), point("s"), point("x"), point("z")), puts("n", "s", "x", "z"), false)
	}
}

// P10.5
func TestWhatMeetsNothingIsHeld(t *testing.T) {
	all := []api.Held{
		{}, // neither reads nor writes, and the zero id
		held(id(0, 1), 5, nil, nil), held(id(1, 0), 5, spans(), puts()),
		held(id(2, 1), 5, spans(span("a", "c"), span("a", "c"), whole), nil),
		held(id(2, 2), 5, spans(span("c", "a"), span("z", "z")), nil),
		held(id(topNumber, topNumber), 5, spans(span("", "a")), nil),
	}
	x := holding(t, all...)
	wantAll(t, x, all...)
	for _, h := range all {
		wantHold(t, x, h, api.ErrHeld)
	}
	wantRelease(t, x, id(2, 1), true)
	wantRelease(t, x, api.Txn{}, true)
	wantRelease(t, x, id(topNumber, topNumber), true)
	// What one transaction reads and writes itself is no meeting, nor is one key twice.
	own := held(id(2, 3), 5, spans(whole), puts("m", "a", "m", ""))
	wantHold(t, x, own, api.OK)
	wantAll(t, x, all[1], all[2], all[4], own)
}

// P10.5: nothing is refused for not being valid.
func TestArgumentsAreTakenAsTheyAre(t *testing.T) {
	long := strings.Repeat("k", 5000)
	h := held(api.Txn{Client: 7}, 0, spans(span(long, ""), span("b", "a")), puts("z", "a", "a", "", long))
	h.At = end
	h.Writes = append(h.Writes, api.Write{Key: "d", Delete: true, Value: strings.Repeat("v", 5000)})
	for i := range 100 {
		h.Reads = append(h.Reads, point(string(rune('0'+i))))
		h.Writes = append(h.Writes, puts(string([]byte{0, byte(i)}))...)
	}
	x := holding(t, h)
	wantAll(t, x, h)
	for _, key := range []string{"z", "a", "", long, long + "x", "d", "0", "\x00\x63"} {
		wantConflict(t, x, id(1, 0), nil, puts(key), true)
	}
	for _, key := range []string{"", long, "d", "\x00\x63"} {
		wantConflict(t, x, id(1, 0), spans(point(key)), nil, true)
		wantBlocks(t, x, point(key), end, h.Txn)
	}
	wantRelease(t, x, h.Txn, true)
	wantConflict(t, x, id(1, 0), spans(whole), puts("z", "a", "", long, "d", "0"), false)
}

// P10.6
func TestReleaseLetsGoAll(t *testing.T) {
	first := held(id(2, 1), 5, spans(span("a", "c"), point("e")), puts("m", "n", "m"))
	second := held(id(2, 2), 6, spans(span("a", "c")), puts("o"))
	x := holding(t, first, second)
	for _, none := range []api.Txn{{}, id(1, 2), id(2, 0), id(2, 3), id(3, 1)} {
		wantRelease(t, x, none, false)
		wantAll(t, x, first, second)
	}
	wantRelease(t, x, id(2, 1), true)
	wantAll(t, x, second)
	wantBlocks(t, x, whole, end, id(2, 2))
	wantConflict(t, x, id(9, 9), spans(span("m", "o")), puts("e", "m", "n"), false)
	wantConflict(t, x, id(9, 9), nil, puts("b"), true) // the second reads it still
	wantConflict(t, x, id(9, 9), nil, puts("o"), true)
	wantRelease(t, x, id(2, 1), false)
	wantAll(t, x, second)
	wantRelease(t, x, id(2, 2), true)
	wantAll(t, x)
	wantConflict(t, x, id(9, 9), spans(whole), puts("b", "o"), false)
}

// P10.6: what was refused holds nothing, and lets go nothing.
func TestReleaseOfWhatWasRefused(t *testing.T) {
	h := held(id(2, 1), 5, spans(point("r")), puts("w"))
	x := holding(t, h)
	wantHold(t, x, held(id(3, 1), 5, nil, puts("a", "w")), api.ErrConflict)
	wantRelease(t, x, id(3, 1), false)
	wantAll(t, x, h)
	wantConflict(t, x, id(3, 1), nil, puts("w"), true)
}

// P10.7
func TestGetAndAllTellItAsItWasHandedIn(t *testing.T) {
	h := api.Held{
		Txn: id(7, 3), Home: topNumber, At: api.Stamp{Wall: topWall, Logical: 2, Node: topNumber},
		Reads:  spans(span("x", ""), point("a"), point("a"), span("z", "b"), whole),
		Writes: []api.Write{{Key: "q", Value: "1"}, {Key: "b", Delete: true}, {Key: "q", Value: "2"}, {Key: "c", Delete: true, Value: "odd"}, {}},
	}
	x := holding(t, h)
	if got, ok := x.Get(h.Txn); !ok || !reflect.DeepEqual(got, h) {
		t.Errorf("Get(%v) = %v, %v, want %v", h.Txn, got, ok, h)
	}
	if got := x.All(); !reflect.DeepEqual(got, []api.Held{h}) {
		t.Errorf("All() = %v, want %v", got, h)
	}
	for _, other := range []api.Txn{{}, id(7, 2), id(7, 4), id(3, 7), id(8, 3)} {
		wantGet(t, x, other, api.Held{}, false)
	}
	x.Release(h.Txn)
	if got, ok := x.Get(h.Txn); ok || !reflect.DeepEqual(got, api.Held{}) {
		t.Errorf("Get of what was let go = %v, %v", got, ok)
	}
	// With less in it, the second time.
	bare := api.Held{Txn: h.Txn}
	wantHold(t, x, bare, api.OK)
	wantAll(t, x, bare)
}

// P10.7 and P10.8
func TestIdsRise(t *testing.T) {
	rising := []api.Txn{{}, id(0, 9), id(1, 1<<31), id(1, topNumber), id(2, 0), id(2, 1), id(2, 9), id(2, 10), id(10, 1), id(1<<31, 2), id(topNumber, 0), id(topNumber, topNumber)}
	for shift := range rising {
		x := New()
		for i := range rising {
			k := (i*5 + shift) % len(rising) // 5 has no part in common with their number, so each comes once
			wantHold(t, x, held(rising[k], uint64(40-k), spans(whole)[:0], puts(string(rune('z'-k)), string(rune('Z'-k)))), api.OK)
		}
		var got []api.Txn
		for _, h := range x.All() {
			got = append(got, h.Txn)
		}
		if !slices.Equal(got, rising) || x.Len() != len(rising) {
			t.Errorf("All() tells %v, Len() = %d", got, x.Len())
		}
		wantBlocks(t, x, whole, end, rising...)
		wantBlocks(t, x, span("a", ""), end, rising...)
		wantBlocks(t, x, whole, at(34, 0, 0), rising[6:]...)
	}
}

// P10.8
func TestBlocksAsksForTheStampAndTheSpan(t *testing.T) {
	h := held(id(2, 1), 0, spans(span("a", "c")), []api.Write{{Key: "m", Value: "1"}, {Key: "o", Delete: true}})
	h.At = at(5, 6, 7)
	x := holding(t, h)
	for _, below := range []api.Stamp{{}, at(4, 9, 9), at(5, 5, 9), at(5, 6, 6)} {
		wantBlocks(t, x, whole, below)
	}
	for _, now := range []api.Stamp{at(5, 6, 7), at(5, 6, 8), at(5, 7, 0), at(6, 0, 0), at(topWall, 0, 0), end} {
		wantBlocks(t, x, whole, now, id(2, 1))
		wantBlocks(t, x, span("m", "n"), now, id(2, 1))
		wantBlocks(t, x, point("o"), now, id(2, 1)) // a deletion is an intent like any other
		wantBlocks(t, x, span("", "o"), now, id(2, 1))
		wantBlocks(t, x, span("m\x00", ""), now, id(2, 1))
		for _, beside := range []api.Span{span("a", "c"), span("", "m"), span("m\x00", "o"), span("o\x00", ""), span("o", "m"), span("m", "m"), point("b")} {
			wantBlocks(t, x, beside, now)
		}
	}
	h = held(id(0, 0), 0, nil, puts(""))
	h.At = end
	x = holding(t, h)
	wantBlocks(t, x, whole, at(topWall, topNumber, topNumber-1))
	wantBlocks(t, x, whole, end, id(0, 0))
	wantBlocks(t, x, span("", "\x00"), end, id(0, 0))
	wantBlocks(t, x, span("\x00", ""), end)
}

// P10.8: one with many intents inside, between others.
func TestBlocksTellsEachIdOnce(t *testing.T) {
	x := holding(t,
		held(id(3, 1), 5, nil, puts("b", "e", "h", "b")), held(id(1, 1), 5, nil, puts("a", "d", "g")), held(id(2, 1), 5, nil, puts("c", "f", "i")),
		held(id(0, 1), 5, spans(whole)[:0], nil), held(id(2, 2), 6, nil, puts("ee")))
	for range 20 { // another order of the map each time
		wantBlocks(t, x, whole, at(5, 0, 0), id(1, 1), id(2, 1), id(3, 1))
		wantBlocks(t, x, whole, at(6, 0, 0), id(1, 1), id(2, 1), id(2, 2), id(3, 1))
		wantBlocks(t, x, span("d", "f"), at(6, 0, 0), id(1, 1), id(2, 2), id(3, 1))
	}
}
