package table

import (
	"slices"
	"strconv"
	"testing"

	"tidemark/api"
)

// P26.8: the chapter's examples.
func TestFindsOfTheExamples(t *testing.T) {
	s := people()
	both := together(pairs1(), pairs2())
	wantFound(t, s, find(1, 30), both, api.OK, row1())
	wantFound(t, s, find(1), both, api.OK, row2(), row1())
	wantFound(t, s, pick(2), both, api.OK, row2())
	wantFound(t, s, find(0, "c"), both, api.OK)
	wantFound(t, s, find(0), without(both, codeOf("p", 0, 2)), api.ErrTorn)
	wantFound(t, s, find(1, "x"), both, api.ErrArg)
	wantFound(t, s, find(2), both, api.ErrArg)
	wantFound(t, s, pick(1, 1), both, api.ErrArg)
	wantFound(t, s, insert(row1()), both, api.ErrArg)
}

// P26.8: lists that are not allowed, and writing operations.
func TestFindsThatAreRefused(t *testing.T) {
	s := people()
	for _, pairs := range [][]api.Pair{
		{{Key: "b"}, {Key: "a"}}, {{Key: "a"}, {Key: "a"}}, {{Key: ""}, {Key: ""}}, append(pairs1(), pairs1()[0]), append(pairs2(), pairs1()...), append(pairs1(), api.Pair{}),
	} {
		for _, op := range []api.TableOp{pick(), pick(9), find(0), find(1, 30)} {
			wantFound(t, s, op, pairs, api.ErrArg)
		}
	}
	for _, op := range []api.TableOp{insert(row1()), update(row1()), remove(1), remove()} {
		wantFound(t, s, op, pairs1(), api.ErrArg)
		wantFound(t, s, op, nil, api.ErrArg)
	}
}

// P26.8: selections: all, by the first values of the key, by all of them; and what makes no row.
func TestSelections(t *testing.T) {
	s := api.Schema{Name: "t", Columns: []api.Column{{Name: "k", Kind: api.ValText}, {Name: "l", Kind: api.ValInt}, {Name: "a", Kind: api.ValInt, Null: true}}, Key: 2, Indexes: []api.Index{{Name: "a", Columns: []int{2}}}}
	var pairs []api.Pair
	list := rows(row("a", -1, 7), row("a", 2, nil), row("a\x00", 1, 7), row("ab", 1, 7), row("b", 1, 8))
	for _, values := range list {
		own, _ := Entries(s, values)
		pairs = together(pairs, own)
	}
	wantFound(t, s, pick(), pairs, api.OK, list...)
	wantFound(t, s, pick("a"), pairs, api.OK, list[:2]...)
	wantFound(t, s, pick("a", 2), pairs, api.OK, list[1])
	wantFound(t, s, pick("a", 3), pairs, api.OK)
	wantFound(t, s, pick("ab"), pairs, api.OK, list[3])
	wantFound(t, s, pick("c"), pairs, api.OK)
	wantFound(t, s, pick(), nil, api.OK)
	wantFound(t, s, find(0), pairs, api.OK, list[1], list[0], list[2], list[3], list[4])
	wantFound(t, s, find(0, 7), pairs, api.OK, list[0], list[2], list[3])
	wantFound(t, s, find(0, nil), pairs, api.OK, list[1])
	// A selection asks for the row pairs alone: that an entry is missing or spoilt is nothing to it.
	wantFound(t, s, pick(), insideOf(pairs, []api.Span{spanOf("t", 0)}), api.OK, list...)
	wantFound(t, s, pick(), together([]api.Pair{{Key: codeOf("t", 1, 7, "a", -1), Value: "x"}, {Key: codeOf("t"), Value: "x"}, {Key: codeOf("t", 2)}, {Key: ""}}, pairs), api.OK, list...)
	for _, p := range []api.Pair{
		{Key: codeOf("t", 0)}, {Key: codeOf("t", 0, "a")}, {Key: codeOf("t", 0, "a", 1), Value: codeOf("x")}, {Key: codeOf("t", 0, "a", 1), Value: "x"}, {Key: codeOf("t", 0, "a", 1)}, {Key: codeOf("t", 0, "a", 1) + "\x00", Value: codeOf(7)},
		{Key: codeOf("t", 0, "a", 1, 1), Value: codeOf(7)}, {Key: codeOf("t", 0, "a", 1, 7)}, {Key: codeOf("t", 0, "a", nil), Value: codeOf(7)}, {Key: codeOf("t", 0, "a", "b"), Value: codeOf(7)}, {Key: codeOf("t", 0) + "\x00"}, {Key: codeOf("t", 0) + "\xfe"},
	} {
		torn := together([]api.Pair{p}, pairs)
		wantFound(t, s, pick(), torn, api.ErrTorn)
		wantFound(t, s, pick("b"), torn, api.OK, list[4])
		wantFound(t, s, find(0, 8), torn, api.OK, list[4])
	}
}

// P26.8: finds in a unique index and in one that is not, over pairs that no rows make.
func TestFindsAmongTornPairs(t *testing.T) {
	s := people()
	both := together(pairs1(), pairs2())
	for _, p := range []api.Pair{
		{Key: codeOf("p", 1, "a")}, {Key: codeOf("p", 1, "a"), Value: codeOf(2)}, {Key: codeOf("p", 1, "a"), Value: codeOf(3)}, {Key: codeOf("p", 1, "a"), Value: codeOf(1) + "\x01"}, {Key: codeOf("p", 1, "a"), Value: codeOf("b")},
		{Key: codeOf("p", 1, "a", 1)}, {Key: codeOf("p", 1, "a") + "\x00"}, {Key: codeOf("p", 1, "a", "b"), Value: codeOf(1)},
	} {
		wantFound(t, s, find(0, "a"), together([]api.Pair{p}, both), api.ErrTorn)
		wantFound(t, s, find(0), together([]api.Pair{p}, both), api.ErrTorn)
		wantFound(t, s, find(0, "b"), together([]api.Pair{p}, both), api.OK, row2())
		wantFound(t, s, find(1, 30), together([]api.Pair{p}, both), api.OK, row1())
	}
	for _, p := range []api.Pair{
		{Key: codeOf("p", 2, 30)}, {Key: codeOf("p", 2, 30), Value: codeOf(1)}, {Key: codeOf("p", 2, 30, 1), Value: codeOf(1)}, {Key: codeOf("p", 2, 30, 2)}, {Key: codeOf("p", 2, 30, 3)}, {Key: codeOf("p", 2, 30, 1, 1)}, {Key: codeOf("p", 2, 30, "a")},
	} {
		wantFound(t, s, find(1, 30), together([]api.Pair{p}, both), api.ErrTorn)
		wantFound(t, s, find(1, nil), together([]api.Pair{p}, both), api.OK, row2())
	}
	// Of two rows with one mail, the one whose entry stands there is found.
	twins := together(pairs2(), []api.Pair{{Key: codeOf("p", 0, 3), Value: codeOf("b", 30)}, {Key: codeOf("p", 0, 1), Value: codeOf("b", 30)}})
	wantFound(t, s, find(0, "b"), twins, api.OK, row2())
	wantFound(t, s, find(0, "b"), together([]api.Pair{{Key: codeOf("p", 1, "b"), Value: codeOf(3)}}, twins), api.OK, row3())
	// A row whose entry is missing is not found, and a pair that makes no row is nobody's entry.
	wantFound(t, s, find(0), without(both, codeOf("p", 1, "a")), api.OK, row2())
	wantFound(t, s, find(0), together([]api.Pair{{Key: codeOf("p", 0, 0), Value: "x"}}, both), api.OK, row1(), row2())
	wantFound(t, s, find(0), together([]api.Pair{{Key: codeOf("p", 0, 1), Value: codeOf("a")}}, both), api.ErrTorn)
}

// P26.4, P26.8: drawn finds on drawn pairs, beside the model, and with those pairs alone that Needs names.
func TestDrawnFinds(t *testing.T) {
	seen := map[string]int{}
	for seed := range int64(20000) {
		d := newDice(seed)
		s := d.schema()
		pairs := d.pairs(s)
		op := d.op(s, d.rowNear(s, pairs))
		for range 3 {
			if op.Kind < 4 {
				op = d.op(s, d.rowNear(s, pairs))
			}
		}
		if d.Intn(12) == 0 {
			op = d.spoiltOp(op)
		}
		if d.Intn(12) == 0 {
			pairs = d.unruly(pairs)
		}
		want, wantE := modelFind(s, op, pairs)
		got, e := Find(s, op, pairs)
		if !sameRows(got, want) || e != wantE {
			t.Fatalf("seed %d: Find(%v, %v, %q) = %v, %d, want %v, %d", seed, s, op, pairs, got, e, want, wantE)
		}
		if op.Kind == 4 || op.Kind == 5 {
			seen[strconv.Itoa(int(op.Kind))+" "+strconv.Itoa(int(e))+" "+strconv.Itoa(min(len(got), 2))]++
		}
		if spans, needE := Needs(s, op); needE == api.OK && modelAllowed(pairs) {
			if again, againE := Find(s, op, insideOf(pairs, spans)); !sameRows(again, got) || againE != e {
				t.Fatalf("seed %d: with the pairs that Needs names alone, Find(%v, %v, %q) = %v, %d, want %v, %d", seed, s, op, pairs, again, againE, got, e)
			}
		}
	}
	for _, kind := range []string{"4 ", "5 "} {
		wantSeen(t, seen, kind+"0 0", kind+"0 1", kind+"0 2", kind+"1 0", kind+"263 0")
	}
}

// P26.5, P26.6, P26.8: any two keys and values among the pairs of the chapter's rows.
func FuzzPairs(f *testing.F) {
	for _, p := range together(pairs1(), pairs2()) {
		f.Add(p.Key, p.Value, p.Key, "x", "a", int64(30))
	}
	f.Add(codeOf("p", 0, 3), codeOf("c", nil), codeOf("p", 1, "c"), codeOf(3), "c", int64(3))
	f.Fuzz(func(t *testing.T, key1, value1, key2, value2, mail string, n int64) {
		s := people()
		pairs := together([]api.Pair{{Key: key1, Value: value1}, {Key: key2, Value: value2}}, pairs1(), pairs2())
		wantE, wantKey := modelCheck(s, pairs)
		if e, key := Check(s, pairs); e != wantE || key != wantKey {
			t.Fatalf("Check(%q) = %d, %q, want %d, %q", pairs, e, key, wantE, wantKey)
		}
		for _, values := range rows(row(int(n), mail, 30), row(int(n), "a", nil)) {
			for _, op := range []api.TableOp{insert(values), update(values), {Kind: api.TabDelete, Row: values[:1]}} {
				want, wantE := modelPlan(s, op, pairs)
				if got, e := Plan(s, op, pairs); !slices.Equal(got, want) || e != wantE {
					t.Fatalf("Plan(%v, %q) = %v, %d, want %v, %d", op, pairs, got, e, want, wantE)
				}
			}
			for _, op := range []api.TableOp{pick(), pick(int(n)), find(0), find(0, mail), find(1), find(1, int(n))} {
				want, wantE := modelFind(s, op, pairs)
				if got, e := Find(s, op, pairs); !sameRows(got, want) || e != wantE {
					t.Fatalf("Find(%v, %q) = %v, %d, want %v, %d", op, pairs, got, e, want, wantE)
				}
			}
		}
	})
}
