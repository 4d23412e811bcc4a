package table

import (
	"slices"
	"strings"
	"testing"

	"tidemark/api"
	"tidemark/tuple"
)

// peopleText is the chapter's schema.
const peopleText = "table p\ncolumn id int\ncolumn mail text\ncolumn age int?\nkey 1\nunique mail mail\nindex age age\n"

func people() api.Schema {
	return api.Schema{
		Name:    "p",
		Columns: []api.Column{{Name: "id", Kind: api.ValInt}, {Name: "mail", Kind: api.ValText}, {Name: "age", Kind: api.ValInt, Null: true}},
		Key:     1,
		Indexes: []api.Index{{Name: "mail", Columns: []int{1}, Unique: true}, {Name: "age", Columns: []int{2}}},
	}
}

// value gives a value by Go's own: of nil, a Null.
func value(x any) api.Value {
	switch x := x.(type) {
	case bool:
		return api.Value{Kind: api.ValBool, Flag: x}
	case int:
		return api.Value{Kind: api.ValInt, Int: int64(x)}
	case string:
		return api.Value{Kind: api.ValText, Text: x}
	}
	return api.Value{}
}

func row(list ...any) []api.Value {
	var values []api.Value
	for _, x := range list {
		values = append(values, value(x))
	}
	return values
}

// codeOf gives the code of a list.
func codeOf(list ...any) string {
	b, e := tuple.Encode(row(list...))
	if e != api.OK {
		panic("the test's own list has no code")
	}
	return b
}

func rows(list ...[]api.Value) [][]api.Value { return list }

// The rows of the chapter's examples.
func row1() []api.Value { return row(1, "a", 30) }
func row2() []api.Value { return row(2, "b", nil) }
func row3() []api.Value { return row(3, "b", 30) }

func pairs1() []api.Pair {
	return []api.Pair{{Key: codeOf("p", 0, 1), Value: codeOf("a", 30)}, {Key: codeOf("p", 1, "a"), Value: codeOf(1)}, {Key: codeOf("p", 2, 30, 1)}}
}

func pairs2() []api.Pair {
	return []api.Pair{{Key: codeOf("p", 0, 2), Value: codeOf("b", nil)}, {Key: codeOf("p", 1, "b"), Value: codeOf(2)}, {Key: codeOf("p", 2, nil, 2)}}
}

// together gives pairs with their keys rising: of some at one key the first.
func together(lists ...[]api.Pair) []api.Pair {
	all := slices.Concat(lists...)
	slices.SortStableFunc(all, func(a, b api.Pair) int { return strings.Compare(a.Key, b.Key) })
	return slices.CompactFunc(all, func(a, b api.Pair) bool { return a.Key == b.Key })
}

func without(pairs []api.Pair, key string) []api.Pair {
	return slices.DeleteFunc(slices.Clone(pairs), func(p api.Pair) bool { return p.Key == key })
}

func pointOf(key string) api.Span { return api.Span{Lo: key, Hi: key + "\x00"} }

func spanOf(list ...any) api.Span { return api.Span{Lo: codeOf(list...), Hi: codeOf(list...) + "\xff"} }

func sameRows(a, b [][]api.Value) bool {
	return slices.EqualFunc(a, b, func(x, y []api.Value) bool { return slices.Equal(x, y) })
}

func sameSchema(a, b api.Schema) bool {
	return a.Name == b.Name && a.Key == b.Key && slices.Equal(a.Columns, b.Columns) && slices.EqualFunc(a.Indexes, b.Indexes, func(x, y api.Index) bool {
		return x.Name == y.Name && x.Unique == y.Unique && slices.Equal(x.Columns, y.Columns)
	})
}

func wantEntries(t *testing.T, s api.Schema, values []api.Value, want ...api.Pair) {
	t.Helper()
	if got, e := Entries(s, values); !slices.Equal(got, want) || e != api.OK {
		t.Errorf("Entries of %v = %q, %d, want %q", values, got, e, want)
	}
}

func wantNoRow(t *testing.T, s api.Schema, list ...[]api.Value) {
	t.Helper()
	for i, values := range list {
		if got, e := Entries(s, values); len(got) != 0 || e != api.ErrArg {
			t.Errorf("row %d: Entries = %q, %d", i, got, e)
		}
	}
}

func wantNeeds(t *testing.T, s api.Schema, op api.TableOp, want ...api.Span) {
	t.Helper()
	if got, e := Needs(s, op); !slices.Equal(got, want) || e != api.OK {
		t.Errorf("Needs of %v = %q, %d, want %q", op, got, e, want)
	}
}

// wantNone holds operations to be none that may be, whoever is asked.
func wantNone(t *testing.T, s api.Schema, ops ...api.TableOp) {
	t.Helper()
	for i, op := range ops {
		got, e := Needs(s, op)
		list, planE := Plan(s, op, nil)
		found, findE := Find(s, op, nil)
		if len(got)+len(list)+len(found) != 0 || e != api.ErrArg || planE != api.ErrArg || findE != api.ErrArg {
			t.Errorf("operation %d: Needs = %q, %d, Plan %d, Find %d", i, got, e, planE, findE)
		}
	}
}

func wantPlan(t *testing.T, s api.Schema, op api.TableOp, pairs []api.Pair, wantE api.Errno, want ...api.Write) {
	t.Helper()
	if got, e := Plan(s, op, pairs); !slices.Equal(got, want) || e != wantE {
		t.Errorf("Plan of %v on %q = %v, %d, want %v, %d", op, pairs, got, e, want, wantE)
	}
}

func wantFound(t *testing.T, s api.Schema, op api.TableOp, pairs []api.Pair, wantE api.Errno, want ...[]api.Value) {
	t.Helper()
	if got, e := Find(s, op, pairs); !sameRows(got, want) || e != wantE {
		t.Errorf("Find of %v on %q = %v, %d, want %v, %d", op, pairs, got, e, want, wantE)
	}
}

// wantWhole holds pairs to be just those of some rows.
func wantWhole(t *testing.T, s api.Schema, pairs []api.Pair, want ...[]api.Value) {
	t.Helper()
	if e, key := Check(s, pairs); e != api.OK || key != "" {
		t.Errorf("Check of %q = %d, %q", pairs, e, key)
	}
	if got, e := Rows(s, pairs); !sameRows(got, want) || e != api.OK {
		t.Errorf("Rows of %q = %v, %d, want %v", pairs, got, e, want)
	}
}

func wantTorn(t *testing.T, s api.Schema, pairs []api.Pair, wantKey string) {
	t.Helper()
	if e, key := Check(s, pairs); e != api.ErrTorn || key != wantKey {
		t.Errorf("Check of %q = %d, %q, want %q", pairs, e, key, wantKey)
	}
	if got, e := Rows(s, pairs); len(got) != 0 || e != api.ErrTorn {
		t.Errorf("Rows of %q = %v, %d", pairs, got, e)
	}
}
