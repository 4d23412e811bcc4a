package table

import (
	"slices"
	"strconv"
	"testing"

	"tidemark/api"
)

func puts(pairs ...api.Pair) []api.Write {
	var list []api.Write
	for _, p := range pairs {
		list = append(list, api.Write{Key: p.Key, Value: p.Value})
	}
	return list
}

func deletions(pairs ...api.Pair) []api.Write {
	var list []api.Write
	for _, p := range pairs {
		list = append(list, api.Write{Key: p.Key, Delete: true})
	}
	return list
}

// insideOf gives the pairs inside one or another of some spans.
func insideOf(pairs []api.Pair, spans []api.Span) []api.Pair {
	var list []api.Pair
	for _, p := range pairs {
		if slices.ContainsFunc(spans, func(s api.Span) bool { return s.Lo <= p.Key && p.Key < s.Hi }) {
			list = append(list, p)
		}
	}
	return list
}

// P26.5: the chapter's examples.
func TestPlansOfTheExamples(t *testing.T) {
	s := people()
	wantPlan(t, s, insert(row1()), nil, api.OK, puts(pairs1()...)...)
	wantPlan(t, s, insert(row3()), pairs2(), api.ErrTaken)
	wantPlan(t, s, insert(row1()), pairs1(), api.ErrTaken)
	wantPlan(t, s, update(row(2, "b", 30)), pairs2(), api.OK,
		api.Write{Key: codeOf("p", 0, 2), Value: codeOf("b", 30)}, api.Write{Key: codeOf("p", 2, nil, 2), Delete: true}, api.Write{Key: codeOf("p", 2, 30, 2)})
	wantPlan(t, s, update(row2()), pairs2(), api.OK)
	wantPlan(t, s, update(row1()), pairs2(), api.ErrRow)
	wantPlan(t, s, remove(2), pairs2(), api.OK, deletions(pairs2()...)...)
	wantPlan(t, s, remove(2), []api.Pair{{Key: codeOf("p", 0, 2), Value: "x"}}, api.ErrTorn)
}

// P26.5: lists that are not allowed, reading operations, and the order of the errors.
func TestPlansThatAreRefused(t *testing.T) {
	s := people()
	for _, pairs := range [][]api.Pair{
		{{Key: "b"}, {Key: "a"}}, {{Key: "a"}, {Key: "a"}}, {{Key: ""}, {Key: ""}}, {{Key: "\x80"}, {Key: "\x7f"}}, {{Key: "a\x00"}, {Key: "a"}},
		append(pairs1(), pairs1()[0]), append(pairs2(), pairs1()...), {pairs1()[0], pairs1()[0]}, append(pairs1(), api.Pair{}),
	} {
		for _, op := range []api.TableOp{insert(row1()), update(row1()), remove(1), remove(9)} {
			wantPlan(t, s, op, pairs, api.ErrArg)
		}
	}
	wantPlan(t, s, pick(), nil, api.ErrArg)
	wantPlan(t, s, pick(1), pairs1(), api.ErrArg)
	wantPlan(t, s, find(0), nil, api.ErrArg)
	wantPlan(t, s, insert(row(1)), pairs1(), api.ErrArg)
	// No pair at the key, and the mail is another one's: the row's absence is told first.
	wantPlan(t, s, update(row3()), pairs2(), api.ErrRow)
	// The old pair makes no row, and the mail is another one's.
	spoilt := together([]api.Pair{{Key: codeOf("p", 0, 3), Value: codeOf("b")}}, pairs2())
	wantPlan(t, s, update(row3()), spoilt, api.ErrTorn)
	wantPlan(t, s, insert(row3()), spoilt, api.ErrTaken)
	wantPlan(t, s, remove(3), spoilt, api.ErrTorn)
}

// P26.5: keys and values may be any texts, the empty one too; what is outside the spans of Needs is nothing to Plan.
func TestPlansAmongOtherPairs(t *testing.T) {
	s := people()
	others := []api.Pair{
		{Key: "", Value: "x"}, {Key: "\x00"}, {Key: codeOf("o", 0, 1), Value: "x"}, {Key: codeOf("p"), Value: "x"}, {Key: codeOf("p", 0), Value: "x"}, {Key: codeOf("p", 0, 1, 1), Value: "x"}, {Key: codeOf("p", 0, 1) + "\x00", Value: "x"},
		{Key: codeOf("p", 1, "a") + "\x00", Value: "x"}, {Key: codeOf("p", 1, "a", 1), Value: "x"}, {Key: codeOf("p", 2, 30, 1), Value: "x"}, {Key: codeOf("p", 3), Value: "x"}, {Key: codeOf("q", 0, 1), Value: "x"}, {Key: "\xff\xff", Value: "x"},
	}
	others = together(others)
	wantPlan(t, s, insert(row1()), others, api.OK, puts(pairs1()...)...)
	wantPlan(t, s, update(row1()), others, api.ErrRow)
	wantPlan(t, s, remove(1), others, api.ErrRow)
	all := together(pairs1(), others)
	wantPlan(t, s, insert(row1()), all, api.ErrTaken)
	wantPlan(t, s, update(row1()), all, api.OK)
	wantPlan(t, s, remove(1), all, api.OK, deletions(pairs1()...)...)
	// An entry in an index that is not unique is no reason.
	wantPlan(t, s, insert(row(2, "c", 30)), all, api.OK, puts(api.Pair{Key: codeOf("p", 0, 2), Value: codeOf("c", 30)}, api.Pair{Key: codeOf("p", 1, "c"), Value: codeOf(2)}, api.Pair{Key: codeOf("p", 2, 30, 2)})...)
}

// P26.5: what makes no row at the row pair's key: another number of values, other kinds, a Null, spoilt bytes, what doesn't fit.
func TestOldPairsThatMakeNoRow(t *testing.T) {
	s := people()
	long := "123456789012345678901234567" // a mail of 27 bytes: the entry's key has 34
	for _, v := range []string{"", "x", codeOf("a"), codeOf("a", 1, 1), codeOf(1, "a"), codeOf("a", "b"), codeOf(nil, 1), codeOf("a", true), codeOf("a", 1) + "\x00", codeOf("a", 1)[1:], codeOf(1, "a", 1), codeOf(long, 1)} {
		pairs := []api.Pair{{Key: codeOf("p", 0, 1), Value: v}}
		wantPlan(t, s, update(row1()), pairs, api.ErrTorn)
		wantPlan(t, s, remove(1), pairs, api.ErrTorn)
		wantPlan(t, s, insert(row1()), pairs, api.ErrTaken)
	}
	// A pair of a row that has its entries nowhere makes it all the same.
	wantPlan(t, s, remove(1), pairs1()[:1], api.OK, deletions(pairs1()...)...)
	wantPlan(t, s, update(row1()), pairs1()[:1], api.OK)
}

// P26.5: at the key in the unique index there may stand the row's own entry, for an update alone, and nothing else.
func TestTakenValues(t *testing.T) {
	s := people()
	old := pairs1()[0]
	for _, v := range []string{"", "x", codeOf(2), codeOf(1, 1), codeOf("1"), codeOf(1) + "\x00"} {
		other := api.Pair{Key: codeOf("p", 1, "a"), Value: v}
		wantPlan(t, s, insert(row1()), []api.Pair{other}, api.ErrTaken)
		wantPlan(t, s, update(row1()), []api.Pair{old, other}, api.ErrTaken)
		wantPlan(t, s, update(row(1, "c", 30)), []api.Pair{old, other}, api.OK, api.Write{Key: codeOf("p", 0, 1), Value: codeOf("c", 30)}, api.Write{Key: codeOf("p", 1, "a"), Delete: true}, api.Write{Key: codeOf("p", 1, "c"), Value: codeOf(1)})
		wantPlan(t, s, remove(1), []api.Pair{old, other}, api.OK, deletions(pairs1()...)...)
	}
	wantPlan(t, s, insert(row1()), pairs1()[1:2], api.ErrTaken)
	wantPlan(t, s, update(row1()), pairs1()[:2], api.OK)
	// The row's own entry stands there already, though the old row had another mail: it is put all the same.
	wantPlan(t, s, update(row(1, "c", 30)), []api.Pair{old, {Key: codeOf("p", 1, "c"), Value: codeOf(1)}}, api.OK,
		api.Write{Key: codeOf("p", 0, 1), Value: codeOf("c", 30)}, api.Write{Key: codeOf("p", 1, "a"), Delete: true}, api.Write{Key: codeOf("p", 1, "c"), Value: codeOf(1)})
}

// P26.5: rows with a Null never stand in each other's way; the last unique index counts as the first one does.
func TestTakenValuesAndNulls(t *testing.T) {
	s := people()
	s.Columns[1].Null = true
	s.Indexes = []api.Index{{Name: "age", Columns: []int{2}}, {Name: "both", Columns: []int{2, 1}, Unique: true}, {Name: "mail", Columns: []int{1}, Unique: true}}
	stand := func(values []api.Value) []api.Pair {
		pairs, e := Entries(s, values)
		if e != api.OK {
			t.Fatalf("Entries of %v = %d", values, e)
		}
		return pairs
	}
	none := row(1, nil, nil)
	wantPlan(t, s, insert(row(2, nil, nil)), stand(none), api.OK, puts(stand(row(2, nil, nil))...)...)
	wantPlan(t, s, insert(row(2, nil, 5)), stand(row(1, nil, 5)), api.OK, puts(stand(row(2, nil, 5))...)...)
	wantPlan(t, s, insert(row(2, "a", nil)), stand(row(1, "b", nil)), api.OK, puts(stand(row(2, "a", nil))...)...)
	wantPlan(t, s, insert(row(2, "a", nil)), stand(row(1, "a", nil)), api.ErrTaken)
	wantPlan(t, s, insert(row(2, "a", 6)), stand(row(1, "a", 5)), api.ErrTaken)
	wantPlan(t, s, insert(row(2, "b", 5)), stand(row(1, "a", 5)), api.OK, puts(stand(row(2, "b", 5))...)...)
	wantPlan(t, s, update(row(2, "a", 6)), together(stand(row(1, "a", 5)), stand(row(2, "b", 6))), api.ErrTaken)
	// From a Null to none and back: the entry changes its form.
	wantPlan(t, s, update(row(1, "a", 5)), stand(none), api.OK,
		api.Write{Key: codeOf("p", 0, 1), Value: codeOf("a", 5)}, api.Write{Key: codeOf("p", 1, nil, 1), Delete: true}, api.Write{Key: codeOf("p", 1, 5, 1)},
		api.Write{Key: codeOf("p", 2, nil, nil, 1), Delete: true}, api.Write{Key: codeOf("p", 2, 5, "a"), Value: codeOf(1)}, api.Write{Key: codeOf("p", 3, nil, 1), Delete: true}, api.Write{Key: codeOf("p", 3, "a"), Value: codeOf(1)})
	if list, e := Plan(s, update(none), stand(row(1, "a", 5))); len(list) != 7 || e != api.OK {
		t.Errorf("back: Plan = %v, %d", list, e)
	}
}

// P26.5: the most writes there are: the row pair, and two at each of four indexes.
func TestMostWrites(t *testing.T) {
	s := api.Schema{Name: "t", Columns: []api.Column{{Name: "k", Kind: api.ValInt}, {Name: "a", Kind: api.ValInt}}, Key: 1}
	for i, name := range []string{"a", "b", "c", "d"} {
		s.Indexes = append(s.Indexes, api.Index{Name: name, Columns: []int{1}, Unique: i%2 == 0})
	}
	pairs, _ := Entries(s, row(1, 1))
	list, e := Plan(s, update(row(1, 2)), pairs)
	if e != api.OK || len(list) != 9 || !slices.IsSortedFunc(list, func(a, b api.Write) int { return compareTexts(a.Key, b.Key) }) {
		t.Errorf("Plan = %v, %d", list, e)
	}
}

func compareTexts(a, b string) int {
	if a < b {
		return -1
	}
	return 1
}

// wellMade tells whether writes may be those of a transaction, and are all inside a span.
func wellMade(list []api.Write, s api.Span) bool {
	last := ""
	for _, w := range list {
		if w.Key <= last || len(w.Key) > 32 || len(w.Value) > 64 || w.Delete && w.Value != "" || w.Key < s.Lo || w.Key >= s.Hi {
			return false
		}
		last = w.Key
	}
	return len(list) <= 16
}

// rowNear draws a row that is one of those that pairs make, or is like one.
func (d dice) rowNear(s api.Schema, pairs []api.Pair) []api.Value {
	fresh := d.row(s)
	if len(pairs) == 0 || d.Intn(4) == 0 {
		return fresh
	}
	for range 5 {
		if values, ok := modelMade(s, pairs[d.Intn(len(pairs))]); ok {
			for i := range values {
				if d.Intn(4) == 0 {
					values[i] = fresh[i]
				}
			}
			return values
		}
	}
	return fresh
}

// P26.4, P26.5: drawn operations on drawn pairs, beside the model, and with those pairs alone that Needs names.
func TestDrawnPlans(t *testing.T) {
	seen := map[string]int{}
	for seed := range int64(20000) {
		d := newDice(seed)
		s := d.schema()
		pairs := d.pairs(s)
		op := d.op(s, d.rowNear(s, pairs))
		if d.Intn(3) > 0 {
			op.Kind = api.TableKind(1 + d.Intn(3))
			op.Index, op.Row = 0, d.rowNear(s, pairs)
			if op.Kind == api.TabDelete {
				op.Row = op.Row[:s.Key]
			}
		}
		if d.Intn(12) == 0 {
			op = d.spoiltOp(op)
		}
		if d.Intn(12) == 0 {
			pairs = d.unruly(pairs)
		}
		want, wantE := modelPlan(s, op, pairs)
		got, e := Plan(s, op, pairs)
		if !slices.Equal(got, want) || e != wantE {
			t.Fatalf("seed %d: Plan(%v, %v, %q) = %v, %d, want %v, %d", seed, s, op, pairs, got, e, want, wantE)
		}
		if op.Kind >= 1 && op.Kind <= 3 {
			seen[strconv.Itoa(int(op.Kind))+" "+strconv.Itoa(int(e))]++
		}
		if span, _ := Span(s); !wellMade(got, span) {
			t.Fatalf("seed %d: Plan(%v, %v, %q) = %v: no transaction of the table has such writes", seed, s, op, pairs, got)
		}
		if spans, needE := Needs(s, op); needE == api.OK && modelAllowed(pairs) {
			if again, againE := Plan(s, op, insideOf(pairs, spans)); !slices.Equal(again, got) || againE != e {
				t.Fatalf("seed %d: with the pairs that Needs names alone, Plan(%v, %v, %q) = %v, %d, want %v, %d", seed, s, op, pairs, again, againE, got, e)
			}
		}
	}
	wantSeen(t, seen, "1 0", "1 1", "1 262", "2 0", "2 1", "2 261", "2 262", "2 263", "3 0", "3 1", "3 261", "3 263")
}
