package table

import (
	"math"
	"slices"
	"strconv"
	"strings"
	"testing"

	"tidemark/api"
)

func insert(values []api.Value) api.TableOp { return api.TableOp{Kind: api.TabInsert, Row: values} }
func update(values []api.Value) api.TableOp { return api.TableOp{Kind: api.TabUpdate, Row: values} }
func remove(key ...any) api.TableOp         { return api.TableOp{Kind: api.TabDelete, Row: row(key...)} }
func pick(key ...any) api.TableOp           { return api.TableOp{Kind: api.TabSelect, Row: row(key...)} }
func find(index int, list ...any) api.TableOp {
	return api.TableOp{Kind: api.TabFind, Index: index, Row: row(list...)}
}

// P26.4: the chapter's examples, and those of P26.8 that may not be.
func TestNeedsOfTheExamples(t *testing.T) {
	s := people()
	wantNeeds(t, s, insert(row1()), pointOf(codeOf("p", 0, 1)), pointOf(codeOf("p", 1, "a")))
	wantNeeds(t, s, remove(1), pointOf(codeOf("p", 0, 1)))
	wantNeeds(t, s, pick(1), spanOf("p", 0, 1))
	wantNeeds(t, s, find(1, 30), spanOf("p", 2, 30), spanOf("p", 0))
	wantNone(t, s, find(1, "x"), find(2), pick(1, 1))
}

// P26.4: each kind, with as few values as it may have and with as many.
func TestNeedsOfEachKind(t *testing.T) {
	s := people()
	wantNeeds(t, s, update(row1()), pointOf(codeOf("p", 0, 1)), pointOf(codeOf("p", 1, "a")))
	wantNeeds(t, s, update(row2()), pointOf(codeOf("p", 0, 2)), pointOf(codeOf("p", 1, "b")))
	wantNeeds(t, s, pick(), spanOf("p", 0))
	wantNeeds(t, s, find(0), spanOf("p", 1), spanOf("p", 0))
	wantNeeds(t, s, find(0, "c"), spanOf("p", 1, "c"), spanOf("p", 0))
	wantNeeds(t, s, find(1, nil), spanOf("p", 2, nil), spanOf("p", 0))
	wantNone(t, s, remove(), remove(1, 1), remove("1"), remove(nil), pick("1"), pick(nil), find(0, nil), find(0, 1), find(0, "a", "b"), find(1, 1, nil), find(1, true))
	wantNone(t, s, insert(nil), insert(row(1)), insert(row(1, "a", "b")), insert(row(1, "a", 3, 4)), update(row(1)), update(row(nil, "a", 3)), update(row(1, "a", true)))
	for _, index := range []int{math.MinInt, -1, 1, 2, math.MaxInt} {
		for _, op := range []api.TableOp{insert(row1()), update(row1()), remove(1), pick(1)} {
			op.Index = index
			wantNone(t, s, op)
		}
		if index != 1 {
			wantNone(t, s, find(index))
		}
	}
	for _, kind := range []api.TableKind{math.MinInt, -1, 0, 6, math.MaxInt} {
		wantNone(t, s, api.TableOp{Kind: kind}, api.TableOp{Kind: kind, Row: row1()}, api.TableOp{Kind: kind, Row: row(1)})
	}
	s.Indexes = nil
	wantNone(t, s, find(0), find(0, "a"), find(-1))
	wantNeeds(t, s, insert(row1()), pointOf(codeOf("p", 0, 1)))
}

// P26.4: values that are not valid, and fields that their kind does not name.
func TestNeedsOfOddValues(t *testing.T) {
	s := people()
	for _, odd := range []api.Value{{Kind: 4}, {Kind: -1}, {Int: 1}, {Kind: api.ValInt, Flag: true}, {Kind: api.ValInt, Int: 1, Text: "a"}, {Kind: api.ValText, Int: 1}} {
		list := []api.Value{odd}
		wantNone(t, s, api.TableOp{Kind: api.TabDelete, Row: list}, api.TableOp{Kind: api.TabSelect, Row: list}, api.TableOp{Kind: api.TabFind, Row: list}, api.TableOp{Kind: api.TabFind, Index: 1, Row: list})
	}
	wantNone(t, s, api.TableOp{Kind: api.TabSelect, Row: make([]api.Value, 1<<20)}, api.TableOp{Kind: api.TabFind, Row: make([]api.Value, 1<<20)})
}

// P26.4: the points of several unique indexes, in their order; none where a value is Null.
func TestNeedsOfUniqueIndexes(t *testing.T) {
	s := api.Schema{Name: "t", Columns: []api.Column{{Name: "k", Kind: api.ValInt}, {Name: "l", Kind: api.ValBool}, {Name: "a", Kind: api.ValInt, Null: true}, {Name: "b", Kind: api.ValText, Null: true}}, Key: 2,
		Indexes: []api.Index{{Name: "u", Columns: []int{3, 2}, Unique: true}, {Name: "v", Columns: []int{3}}, {Name: "w", Columns: []int{2}, Unique: true}, {Name: "x", Columns: []int{1}, Unique: true}}}
	wantNeeds(t, s, insert(row(1, true, 5, "b")), pointOf(codeOf("t", 0, 1, true)), pointOf(codeOf("t", 1, "b", 5)), pointOf(codeOf("t", 3, 5)), pointOf(codeOf("t", 4, true)))
	wantNeeds(t, s, update(row(1, true, 5, nil)), pointOf(codeOf("t", 0, 1, true)), pointOf(codeOf("t", 3, 5)), pointOf(codeOf("t", 4, true)))
	wantNeeds(t, s, insert(row(1, false, nil, "b")), pointOf(codeOf("t", 0, 1, false)), pointOf(codeOf("t", 4, false)))
	wantNeeds(t, s, remove(1, true), pointOf(codeOf("t", 0, 1, true)))
	wantNeeds(t, s, pick(1), spanOf("t", 0, 1))
	wantNeeds(t, s, pick(1, false), spanOf("t", 0, 1, false))
	wantNeeds(t, s, find(0), spanOf("t", 1), spanOf("t", 0))
	wantNeeds(t, s, find(0, nil), spanOf("t", 1, nil), spanOf("t", 0))
	wantNeeds(t, s, find(0, "b", nil), spanOf("t", 1, "b", nil), spanOf("t", 0))
	wantNeeds(t, s, find(3, true), spanOf("t", 4, true), spanOf("t", 0))
	wantNone(t, s, remove(1), remove(true, 1), pick(true), pick(1, true, 5), find(0, 5), find(0, "b", 5, 1), find(3, nil), find(4))
}

// P26.4: the codes of a deletion, a selection and a find have at most 32 bytes; so their spans may be read.
func TestNeedsThatFit(t *testing.T) {
	s := api.Schema{Name: "abcdef", Columns: []api.Column{{Name: "a", Kind: api.ValText}, {Name: "b", Kind: api.ValText}}, Key: 1, Indexes: []api.Index{{Name: "b", Columns: []int{1}}}}
	key, other := strings.Repeat("x", 21), strings.Repeat("y", 20)
	wantNeeds(t, s, remove(key), pointOf(codeOf("abcdef", 0, key)))
	wantNeeds(t, s, pick(key), spanOf("abcdef", 0, key))
	wantNeeds(t, s, find(0, other), spanOf("abcdef", 1, other), spanOf("abcdef", 0))
	wantNone(t, s, remove(key+"x"), pick(key+"x"), find(0, other+"y"), remove(strings.Repeat("\x00", 11)), pick(strings.Repeat("\x00", 1<<20)))
	for _, op := range []api.TableOp{remove(key), pick(key), find(0, other)} {
		spans, _ := Needs(s, op)
		if slices.ContainsFunc(spans, func(p api.Span) bool { return len(p.Lo) > 33 || len(p.Hi) > 33 || p.Lo >= p.Hi }) {
			t.Errorf("Needs of %v = %q: such spans may not be read", op, spans)
		}
	}
}

// P26.4: drawn operations, beside the model.
func TestDrawnNeeds(t *testing.T) {
	seen := map[string]int{}
	for seed := range int64(20000) {
		d := newDice(seed)
		s := d.schema()
		op := d.op(s, d.row(s))
		if d.Intn(4) == 0 {
			op = d.spoiltOp(op)
		}
		want, wantE := modelNeeds(s, op)
		if got, e := Needs(s, op); !slices.Equal(got, want) || e != wantE {
			t.Fatalf("seed %d: Needs(%v, %v) = %q, %d, want %q, %d", seed, s, op, got, e, want, wantE)
		}
		if op.Kind >= 1 && op.Kind <= 5 {
			seen[strconv.Itoa(int(op.Kind))+" "+strconv.Itoa(int(wantE))]++
		}
	}
	for kind := 1; kind <= 5; kind++ {
		wantSeen(t, seen, strconv.Itoa(kind)+" 0", strconv.Itoa(kind)+" 1")
	}
}
