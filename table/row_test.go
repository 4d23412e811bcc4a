package table

import (
	"math"
	"slices"
	"strconv"
	"strings"
	"testing"

	"tidemark/api"
)

// P26.2: the span begins with the name's code and ends where no code can go on.
func TestSpan(t *testing.T) {
	for name, want := range map[string]api.Span{
		"p":      {Lo: "\x30p\x00", Hi: "\x30p\x00\xff"},
		"pq":     {Lo: "\x30pq\x00", Hi: "\x30pq\x00\xff"},
		"zzzzzz": {Lo: "\x30zzzzzz\x00", Hi: "\x30zzzzzz\x00\xff"},
	} {
		s := people()
		s.Name = name
		if got, e := Span(s); got != want || e != api.OK {
			t.Errorf("Span of %s = %q, %d, want %q", name, got, e, want)
		}
	}
}

// P26.2: all pairs of drawn rows are in their table's span, and in none of another name.
func TestSpansHoldTheirTablesAlone(t *testing.T) {
	names := []string{"a", "aa", "ab", "b", "p", "pa", "q", "z", "zz", "zzzzzz"}
	drawn := 0
	for seed := range int64(2000) {
		d := newDice(seed)
		s := d.schema()
		s.Name = names[d.Intn(len(names))]
		values, ok := d.goodRow(s)
		if !ok {
			continue
		}
		drawn++
		pairs, e := Entries(s, values)
		if e != api.OK {
			t.Fatalf("seed %d: Entries(%v) = %d", seed, values, e)
		}
		for _, name := range names {
			other := s
			other.Name = name
			span, _ := Span(other)
			for _, p := range pairs {
				if in := span.Lo <= p.Key && p.Key < span.Hi; in != (name == s.Name) {
					t.Fatalf("seed %d: %q of the table %s is inside the span of %s: %v", seed, p.Key, s.Name, name, in)
				}
			}
		}
	}
	if drawn < 1000 {
		t.Errorf("only %d rows were drawn", drawn)
	}
}

// P26.3: the chapter's examples.
func TestEntriesOfTheExamples(t *testing.T) {
	wantEntries(t, people(), row1(), pairs1()...)
	wantEntries(t, people(), row2(), pairs2()...)
	wantNoRow(t, people(), row(1, "a"), row(nil, "a", 3), row(1, 2, 3), row(1, strings.Repeat("x", 40), 3))
}

// P26.3: how the pairs' bytes are made.
func TestBytesOfEntries(t *testing.T) {
	wantEntries(t, people(), row1(),
		api.Pair{Key: "\x30p\x00\x18\x19\x01", Value: "\x30a\x00\x19\x1e"},
		api.Pair{Key: "\x30p\x00\x19\x01\x30a\x00", Value: "\x19\x01"},
		api.Pair{Key: "\x30p\x00\x19\x02\x19\x1e\x19\x01", Value: ""})
}

// P26.3: keys of several columns, rows of the key alone, indexes over several columns in any order, over key columns, and the Nulls in unique ones.
func TestEntriesOfOtherSchemas(t *testing.T) {
	s := api.Schema{Name: "ab", Columns: []api.Column{{Name: "a", Kind: api.ValBool}, {Name: "b", Kind: api.ValInt}}, Key: 2}
	wantEntries(t, s, row(true, -1), api.Pair{Key: codeOf("ab", 0, true, -1)})
	s.Indexes = []api.Index{{Name: "x", Columns: []int{1}}, {Name: "y", Columns: []int{1, 0}, Unique: true}, {Name: "z", Columns: []int{0}, Unique: true}}
	wantEntries(t, s, row(false, 300), api.Pair{Key: codeOf("ab", 0, false, 300)}, api.Pair{Key: codeOf("ab", 1, 300, false, 300)},
		api.Pair{Key: codeOf("ab", 2, 300, false), Value: codeOf(false, 300)}, api.Pair{Key: codeOf("ab", 3, false), Value: codeOf(false, 300)})

	s = api.Schema{Name: "t", Columns: []api.Column{{Name: "k", Kind: api.ValText}, {Name: "a", Kind: api.ValInt, Null: true}, {Name: "b", Kind: api.ValBool, Null: true}}, Key: 1,
		Indexes: []api.Index{{Name: "u", Columns: []int{2, 1}, Unique: true}, {Name: "v", Columns: []int{2, 1}}}}
	wantEntries(t, s, row("", 5, true), api.Pair{Key: codeOf("t", 0, ""), Value: codeOf(5, true)}, api.Pair{Key: codeOf("t", 1, true, 5), Value: codeOf("")}, api.Pair{Key: codeOf("t", 2, true, 5, "")})
	wantEntries(t, s, row("x", nil, true), api.Pair{Key: codeOf("t", 0, "x"), Value: codeOf(nil, true)}, api.Pair{Key: codeOf("t", 1, true, nil, "x")}, api.Pair{Key: codeOf("t", 2, true, nil, "x")})
	wantEntries(t, s, row("x", 5, nil), api.Pair{Key: codeOf("t", 0, "x"), Value: codeOf(5, nil)}, api.Pair{Key: codeOf("t", 1, nil, 5, "x")}, api.Pair{Key: codeOf("t", 2, nil, 5, "x")})
	wantEntries(t, s, row("x", nil, nil), api.Pair{Key: codeOf("t", 0, "x"), Value: codeOf(nil, nil)}, api.Pair{Key: codeOf("t", 1, nil, nil, "x")}, api.Pair{Key: codeOf("t", 2, nil, nil, "x")})
	wantEntries(t, s, row("x", 0, false), api.Pair{Key: codeOf("t", 0, "x"), Value: codeOf(0, false)}, api.Pair{Key: codeOf("t", 1, false, 0), Value: codeOf("x")}, api.Pair{Key: codeOf("t", 2, false, 0, "x")})
}

// P26.3: values that may not be, one at a time.
func TestNoRows(t *testing.T) {
	s := people()
	wantNoRow(t, s, nil, row(), row(1), row(1, "a", 3, 4), row(1, "a", 3, nil), row(nil, nil, nil), row("1", "a", 3), row(true, "a", 3), row(1, nil, 3), row(1, true, 3), row(1, "a", "3"), row(1, "a", false), row("a", 1, 3))
	for i := range 3 {
		for _, odd := range []api.Value{
			{Kind: 4}, {Kind: -1}, {Kind: math.MaxInt}, {Int: 1}, {Flag: true}, {Text: "a"},
			{Kind: api.ValInt, Flag: true}, {Kind: api.ValInt, Int: 1, Text: "a"}, {Kind: api.ValText, Int: 1}, {Kind: api.ValText, Text: "a", Flag: true}, {Kind: api.ValBool, Int: 1},
		} {
			values := row1()
			values[i] = odd
			wantNoRow(t, s, values)
		}
	}
	wantNoRow(t, s, make([]api.Value, 1<<20), row(1, strings.Repeat("\x00", 1<<20), 3))
}

// P26.3: each pair's key has at most 32 bytes, its value at most 64.
func TestFits(t *testing.T) {
	// Of this one the row pair's key is the longest: 9 bytes ahead of the text, and 1 behind it.
	s := api.Schema{Name: "abcdef", Columns: []api.Column{{Name: "a", Kind: api.ValText}, {Name: "b", Kind: api.ValText}, {Name: "c", Kind: api.ValText, Null: true}}, Key: 1}
	long := strings.Repeat("x", 21)
	wantEntries(t, s, row(long, "", ""), api.Pair{Key: codeOf("abcdef", 0, long), Value: codeOf("", "")})
	wantNoRow(t, s, row(long+"x", "", ""))
	wantEntries(t, s, row(strings.Repeat("\x00", 10)+"x", "", ""), api.Pair{Key: codeOf("abcdef", 0, strings.Repeat("\x00", 10)+"x"), Value: codeOf("", "")})
	wantNoRow(t, s, row(strings.Repeat("\x00", 11), "", ""))
	// Of the value, 4 bytes are those of two texts' begins and ends.
	b, c := strings.Repeat("y", 30), strings.Repeat("z", 30)
	wantEntries(t, s, row("", b, c), api.Pair{Key: codeOf("abcdef", 0, ""), Value: codeOf(b, c)})
	wantNoRow(t, s, row("", b+"y", c), row("", b, c+"z"), row("", b[1:]+"\x00", c))
	// An entry's key without the row's key may be as long as 32 bytes, and so may its value.
	s.Indexes = []api.Index{{Name: "u", Columns: []int{1}, Unique: true}}
	b = strings.Repeat("y", 20)
	wantEntries(t, s, row(long, b, nil), api.Pair{Key: codeOf("abcdef", 0, long), Value: codeOf(b, nil)}, api.Pair{Key: codeOf("abcdef", 1, b), Value: codeOf(long)})
	wantNoRow(t, s, row(long, b+"y", nil), row("", b+"y", nil))
	// With the row's key it is longer.
	s.Indexes = []api.Index{{Name: "i", Columns: []int{1}}}
	wantEntries(t, s, row("k", b[3:], nil), api.Pair{Key: codeOf("abcdef", 0, "k"), Value: codeOf(b[3:], nil)}, api.Pair{Key: codeOf("abcdef", 1, b[3:], "k")})
	wantNoRow(t, s, row("k", b[2:], nil), row("kk", b[3:], nil))
	// So it is in a unique index, if one of its values is Null.
	s.Indexes = []api.Index{{Name: "u", Columns: []int{2, 1}, Unique: true}}
	wantEntries(t, s, row("k", b[4:], nil), api.Pair{Key: codeOf("abcdef", 0, "k"), Value: codeOf(b[4:], nil)}, api.Pair{Key: codeOf("abcdef", 1, nil, b[4:], "k")})
	wantNoRow(t, s, row("k", b[3:], nil), row("kk", b[4:], nil))
	wantEntries(t, s, row("kk", b[4:], ""), api.Pair{Key: codeOf("abcdef", 0, "kk"), Value: codeOf(b[4:], "")}, api.Pair{Key: codeOf("abcdef", 1, "", b[4:]), Value: codeOf("kk")})
	// The last index counts as the first one does.
	s.Indexes = []api.Index{{Name: "a", Columns: []int{2}}, {Name: "b", Columns: []int{2}}, {Name: "c", Columns: []int{2}}, {Name: "d", Columns: []int{1}}}
	wantNoRow(t, s, row("k", b[2:], nil))
	if pairs, e := Entries(s, row("k", b[3:], nil)); len(pairs) != 5 || e != api.OK {
		t.Errorf("Entries = %q, %d", pairs, e)
	}
}

// P26.3: drawn rows, beside the model; the keys rise.
func TestDrawnEntries(t *testing.T) {
	seen := map[string]int{}
	for seed := range int64(20000) {
		d := newDice(seed)
		s := d.schema()
		values := d.row(s)
		if d.Intn(4) == 0 {
			values = d.spoiltValues(values)
		}
		var want []api.Pair
		wantE := api.ErrArg
		if modelRow(s, values) {
			want, wantE = modelPairs(s, values), api.OK
		}
		got, e := Entries(s, values)
		if !slices.Equal(got, want) || e != wantE || !modelAllowed(got) {
			t.Fatalf("seed %d: Entries(%v, %v) = %q, %d, want %q, %d", seed, s, values, got, e, want, wantE)
		}
		seen[strconv.Itoa(int(e))]++
	}
	wantSeen(t, seen, "0", "1")
}
