package table

import (
	"slices"
	"strconv"
	"testing"

	"tidemark/api"
)

// P26.6, P26.7: the chapter's examples.
func TestChecksOfTheExamples(t *testing.T) {
	s := people()
	both := together(pairs1(), pairs2())
	wantWhole(t, s, both, row1(), row2())
	wantTorn(t, s, without(both, codeOf("p", 1, "b")), codeOf("p", 1, "b"))
	third, _ := Entries(s, row3())
	wantTorn(t, s, together(pairs2(), third), codeOf("p", 1, "b")) // together takes the first of the two at one key
	wantTorn(t, s, together(third, pairs2()), codeOf("p", 1, "b"))
}

// P26.6, P26.7: lists that are not allowed.
func TestChecksThatAreRefused(t *testing.T) {
	s := people()
	for i, pairs := range [][]api.Pair{
		{{Key: "b"}, {Key: "a"}}, {{Key: "a"}, {Key: "a"}}, {{Key: ""}, {Key: ""}}, {{Key: "\x80"}, {Key: "\x7f"}}, append(pairs1(), pairs1()...), append(pairs2(), pairs1()...), append(pairs1(), pairs1()[2]), append(pairs1(), api.Pair{}),
	} {
		e, key := Check(s, pairs)
		all, rowsE := Rows(s, pairs)
		if e != api.ErrArg || key != "" || rowsE != api.ErrArg || len(all) != 0 {
			t.Errorf("list %d: Check = %d, %q, Rows = %v, %d", i, e, key, all, rowsE)
		}
	}
}

// P26.6: each pair missing, and each pair spoilt.
func TestEachPairMissingOrSpoilt(t *testing.T) {
	s := people()
	both := together(pairs1(), pairs2())
	for i, p := range both {
		rest := without(both, p.Key)
		least := p.Key
		if i == 0 {
			least = codeOf("p", 1, "a") // without the row pair nobody wants it, but the row's entries, which stand there
		} else if i == 1 {
			least = codeOf("p", 1, "b")
		}
		wantTorn(t, s, rest, least)
		for _, v := range []string{"x", p.Value + "\x00", p.Value + codeOf(nil)} {
			wantTorn(t, s, together([]api.Pair{{Key: p.Key, Value: v}}, rest), p.Key)
		}
	}
	// Another row in its place: the entry that it wants comes ahead of the one that nobody wants any more, or behind it.
	wantTorn(t, s, together([]api.Pair{{Key: codeOf("p", 0, 2), Value: codeOf("0", nil)}}, both), codeOf("p", 1, "0"))
	wantTorn(t, s, together([]api.Pair{{Key: codeOf("p", 0, 2), Value: codeOf("c", nil)}}, both), codeOf("p", 1, "b"))
	wantTorn(t, s, together([]api.Pair{{Key: codeOf("p", 1, "b"), Value: codeOf(1)}}, both), codeOf("p", 1, "b"))
}

// P26.6, P26.13: pairs that no row has, within the table's span and outside it.
func TestStrangePairs(t *testing.T) {
	s := people()
	both := together(pairs1(), pairs2())
	name := codeOf("p")
	for _, key := range []string{
		name, name + "\x00", name + "\x01", name + "\x18", name + "\x18\x00", name + "\x19", name + "\xfe", name + "\xfe\xff", codeOf("p", nil), codeOf("p", false), codeOf("p", -1), codeOf("p", 0), codeOf("p", 0, 1, 1), codeOf("p", 0, "a"), codeOf("p", 0, 3),
		codeOf("p", 1), codeOf("p", 1, "c"), codeOf("p", 1, "a", 1), codeOf("p", 2, 30), codeOf("p", 2, 30, 2), codeOf("p", 2, 30, 1, 1), codeOf("p", 3), codeOf("p", 3, 1), codeOf("p", "a"), codeOf("p", "p", 0, 1),
	} {
		for _, v := range []string{"", "x", codeOf(1)} {
			strange := api.Pair{Key: key, Value: v}
			wantTorn(t, s, []api.Pair{strange}, key)
			wantTorn(t, s, together([]api.Pair{strange}, both), key)
		}
	}
	for _, key := range []string{"", "\x00", "p", "\x30", "\x30p", name[:len(name)-1], name + "\xff", name + "\xff\x00", "\x30p\x01", codeOf("o", 0, 1), codeOf("p\x00"), codeOf("pa", 0, 1), codeOf("q", 0, 1), codeOf(0, 1), codeOf("", "p", 0, 1), "\xff"} {
		for _, v := range []string{"", "x", codeOf("a", 30)} {
			strange := api.Pair{Key: key, Value: v}
			wantWhole(t, s, []api.Pair{strange})
			wantWhole(t, s, together([]api.Pair{strange}, both), row1(), row2())
		}
	}
	wantWhole(t, s, nil)
	wantWhole(t, s, []api.Pair{})
}

// P26.6: the least of several wrong keys, whichever they are.
func TestLeastOfSeveral(t *testing.T) {
	s := people()
	var all []api.Pair
	for i := range 50 {
		own, _ := Entries(s, row(i, strconv.Itoa(1000+i), i%7))
		all = together(all, own)
	}
	for seed := range int64(300) {
		d := newDice(seed)
		left := slices.Clone(all)
		least := ""
		for range 1 + d.Intn(4) {
			i := 50 + d.Intn(len(left)-50) // an entry: its row wants it
			if least == "" || left[i].Key < least {
				least = left[i].Key
			}
			left = slices.Delete(left, i, i+1)
		}
		wantTorn(t, s, left, least)
	}
}

// P26.6: a table without indexes: what makes no row is wrong, and nothing is missing.
func TestChecksWithoutIndexes(t *testing.T) {
	s := people()
	s.Indexes = nil
	wantWhole(t, s, pairs1()[:1], row1())
	wantTorn(t, s, pairs1(), codeOf("p", 1, "a"))
	wantTorn(t, s, []api.Pair{{Key: codeOf("p", 0, 1), Value: codeOf("a")}}, codeOf("p", 0, 1))
	wantWhole(t, s, together(pairs1()[:1], []api.Pair{{Key: codeOf("p", 0, -5), Value: codeOf("a", nil)}}), row(-5, "a", nil), row1())
}

// P26.6: of two and of three rows with one value of a unique index, whichever has the entry.
func TestTwins(t *testing.T) {
	s := api.Schema{Name: "t", Columns: []api.Column{{Name: "k", Kind: api.ValInt}, {Name: "a", Kind: api.ValInt, Null: true}}, Key: 1, Indexes: []api.Index{{Name: "a", Columns: []int{1}, Unique: true}}}
	for n := 2; n <= 3; n++ {
		var pairs []api.Pair
		for k := range n {
			pairs = append(pairs, api.Pair{Key: codeOf("t", 0, k), Value: codeOf(7)})
		}
		wantTorn(t, s, pairs, codeOf("t", 1, 7))
		for k := range n + 1 {
			wantTorn(t, s, together(pairs, []api.Pair{{Key: codeOf("t", 1, 7), Value: codeOf(k)}}), codeOf("t", 1, 7))
		}
	}
	var nulls []api.Pair
	for k := range 3 {
		own, _ := Entries(s, row(k, nil))
		nulls = together(nulls, own)
	}
	wantWhole(t, s, nulls, row(0, nil), row(1, nil), row(2, nil))
}

// P26.6, P26.7: drawn pairs, beside the model.
func TestDrawnChecks(t *testing.T) {
	seen := map[string]int{}
	for seed := range int64(12000) {
		d := newDice(seed)
		s := d.schema()
		pairs := d.pairs(s)
		if d.Intn(12) == 0 {
			pairs = d.unruly(pairs)
		}
		wantE, wantKey := modelCheck(s, pairs)
		if e, key := Check(s, pairs); e != wantE || key != wantKey {
			t.Fatalf("seed %d: Check(%v, %q) = %d, %q, want %d, %q", seed, s, pairs, e, key, wantE, wantKey)
		}
		want, wantE := modelRows(s, pairs)
		got, e := Rows(s, pairs)
		if !sameRows(got, want) || e != wantE {
			t.Fatalf("seed %d: Rows(%v, %q) = %v, %d, want %v, %d", seed, s, pairs, got, e, want, wantE)
		}
		seen[strconv.Itoa(int(e))+" "+strconv.Itoa(min(len(got), 2))]++
	}
	wantSeen(t, seen, "0 0", "0 1", "0 2", "1 0", "263 0")
}
