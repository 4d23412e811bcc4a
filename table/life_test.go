package table

import (
	"slices"
	"strconv"
	"testing"

	"tidemark/api"
	"tidemark/tuple"
)

// life is a store of pairs on which operations of a table are planned and done, beside the table's rows as the operations say them.
type life struct {
	*testing.T
	dice
	seed   int64
	schema api.Schema
	others []api.Pair // of other tables, and of none
	pairs  []api.Pair // all
	rows   [][]api.Value
	seen   map[string]int
}

func newLife(t *testing.T, seed int64, seen map[string]int) *life {
	l := &life{T: t, dice: newDice(seed), seed: seed, seen: seen}
	l.schema = l.dice.schema()
	for range l.Intn(5) {
		other := l.schema
		other.Name = []string{"a", "o", "pa", "pq", "q", "zz"}[l.Intn(6)]
		if other.Name == l.schema.Name {
			continue
		}
		values, ok := l.goodRow(other)
		if ok {
			l.others = append(l.others, modelPairs(other, values)...)
		}
	}
	for range l.Intn(4) {
		if p := l.foreign(l.schema); !modelInTable(l.schema, p.Key) {
			l.others = append(l.others, p)
		}
	}
	l.others = together(l.others)
	l.pairs = slices.Clone(l.others)
	return l
}

// alike tells whether two rows have the same values at some places.
func alike(a, b []api.Value, places []int) bool {
	return slices.Equal(modelValues(a, places), modelValues(b, places))
}

func (l *life) keyPlaces() []int { return []int{0, 1, 2, 3, 4, 5, 6, 7}[:l.schema.Key] }

// inTheWay tells whether one row stands in another one's way: they have one value of a unique index, none of it Null.
func (l *life) inTheWay(a, b []api.Value) bool {
	return slices.ContainsFunc(l.schema.Indexes, func(x api.Index) bool {
		return x.Unique && alike(a, b, x.Columns) && !slices.Contains(modelValues(a, x.Columns), value(nil))
	})
}

// done gives the rows as a writing operation leaves them.
func (l *life) done(op api.TableOp) ([][]api.Value, api.Errno) {
	left := slices.DeleteFunc(slices.Clone(l.rows), func(r []api.Value) bool { return alike(r, op.Row, l.keyPlaces()) })
	stood := len(left) < len(l.rows)
	switch {
	case op.Kind == api.TabInsert && stood:
		return nil, api.ErrTaken
	case op.Kind != api.TabInsert && !stood:
		return nil, api.ErrRow
	case op.Kind == api.TabDelete:
		return left, api.OK
	case slices.ContainsFunc(left, func(r []api.Value) bool { return l.inTheWay(r, op.Row) }):
		return nil, api.ErrTaken
	}
	left = append(left, op.Row)
	slices.SortFunc(left, func(a, b []api.Value) int { return tuple.Compare(a[:l.schema.Key], b[:l.schema.Key]) })
	return left, api.OK
}

// asked gives the rows for which a reading operation asks.
func (l *life) asked(op api.TableOp) [][]api.Value {
	places := l.keyPlaces()
	if op.Kind == api.TabFind {
		places = l.schema.Indexes[op.Index].Columns
	}
	var found [][]api.Value
	for _, r := range l.rows {
		if slices.Equal(modelValues(r, places[:len(op.Row)]), op.Row) {
			found = append(found, r)
		}
	}
	slices.SortStableFunc(found, func(a, b []api.Value) int { return tuple.Compare(modelValues(a, places), modelValues(b, places)) })
	return found
}

// laid gives pairs with writes laid on them.
func laid(pairs []api.Pair, list []api.Write) []api.Pair {
	var put []api.Pair
	for _, w := range list {
		pairs = without(pairs, w.Key)
		if !w.Delete {
			put = append(put, api.Pair{Key: w.Key, Value: w.Value})
		}
	}
	return together(pairs, put)
}

// crossed draws a row of the table that has one index's values of another one, or a row that is like one.
func (l *life) crossed() []api.Value {
	if len(l.rows) < 2 || len(l.schema.Indexes) == 0 || l.Intn(2) == 0 {
		return l.rowNear(l.schema, l.pairs)
	}
	values, other := slices.Clone(l.rows[l.Intn(len(l.rows))]), l.rows[l.Intn(len(l.rows))]
	for _, i := range l.schema.Indexes[l.Intn(len(l.schema.Indexes))].Columns {
		values[i] = other[i]
	}
	return values
}

// step draws an operation, and holds Plan and Find, by the pairs that Needs names, to what comes of the rows.
func (l *life) step() {
	op := l.op(l.schema, l.crossed())
	if l.Intn(4) == 0 {
		op = insert(l.dice.row(l.schema)) // or few rows would live
	}
	spans, e := Needs(l.schema, op)
	if e != api.OK {
		return
	}
	read := insideOf(l.pairs, spans)
	if op.Kind == api.TabSelect || op.Kind == api.TabFind {
		want := l.asked(op)
		if got, e := Find(l.schema, op, read); !sameRows(got, want) || e != api.OK {
			l.Fatalf("seed %d: Find(%v, %v, %q) = %v, %d, want %v", l.seed, l.schema, op, read, got, e, want)
		}
		l.seen["find "+strconv.Itoa(int(op.Kind))+" "+strconv.Itoa(min(len(want), 2))]++
		return
	}
	want, wantE := l.done(op)
	list, e := Plan(l.schema, op, read)
	span, _ := Span(l.schema)
	if e != wantE || !wellMade(list, span) {
		l.Fatalf("seed %d: Plan(%v, %v, %q) = %v, %d, want %d", l.seed, l.schema, op, read, list, e, wantE)
	}
	l.seen["plan "+strconv.Itoa(int(op.Kind))+" "+strconv.Itoa(int(e))]++
	if e != api.OK {
		return
	}
	if op.Kind == api.TabUpdate && (len(list) == 0) != sameRows(want, l.rows) {
		l.Fatalf("seed %d: an update of %v to %v has the writes %v", l.seed, l.rows, want, list)
	}
	l.pairs, l.rows = laid(l.pairs, list), want
}

// whole holds the pairs to be just those of the rows, whatever other tables have, and to be torn without any one of them.
func (l *life) whole() {
	own := slices.DeleteFunc(slices.Clone(l.pairs), func(p api.Pair) bool { return !modelInTable(l.schema, p.Key) })
	if !slices.Equal(together(own, l.others), l.pairs) {
		l.Fatalf("seed %d: the writes have changed what is not the table's: %q, %q", l.seed, l.others, l.pairs)
	}
	for _, pairs := range [][]api.Pair{l.pairs, own} {
		e, key := Check(l.schema, pairs)
		got, rowsE := Rows(l.schema, pairs)
		if e != api.OK || key != "" || rowsE != api.OK || !sameRows(got, l.rows) {
			l.Fatalf("seed %d: of %q Check = %d, %q and Rows = %v, %d, want %v", l.seed, pairs, e, key, got, rowsE, l.rows)
		}
	}
	if len(l.schema.Indexes) == 0 {
		return
	}
	for _, p := range own {
		if e, _ := Check(l.schema, without(l.pairs, p.Key)); e != api.ErrTorn {
			l.Fatalf("seed %d: without %q, Check(%v, %q) = %d", l.seed, p, l.schema, l.pairs, e)
		}
		l.seen["torn"]++
	}
}

// P26.10 to P26.13: drawn lives of a table beside others.
func TestLives(t *testing.T) {
	seen := map[string]int{}
	for seed := range int64(300) {
		l := newLife(t, seed, seen)
		for range 25 {
			l.step()
			l.whole()
		}
	}
	wantSeen(t, seen, "plan 1 0", "plan 1 262", "plan 2 0", "plan 2 261", "plan 2 262", "plan 3 0", "plan 3 261", "find 4 0", "find 4 1", "find 4 2", "find 5 0", "find 5 1", "find 5 2", "torn")
}

// P26.12: two rows' pairs, without any of them, with one index alone, unique or not.
func TestNothingTornIsTaken(t *testing.T) {
	for _, unique := range []bool{false, true} {
		for _, place := range []int{0, 1, 2} {
			s := people()
			s.Indexes = []api.Index{{Name: "x", Columns: []int{place}, Unique: unique}}
			first, _ := Entries(s, row1())
			second, _ := Entries(s, row2())
			both := together(first, second)
			wantWhole(t, s, both, row1(), row2())
			for _, p := range both {
				if e, _ := Check(s, without(both, p.Key)); e != api.ErrTorn {
					t.Errorf("unique %v, of column %d: without %q, Check = %d", unique, place, p, e)
				}
			}
		}
	}
}

// P26.13: tables whose names begin alike, in one store.
func TestTablesBesideOneAnother(t *testing.T) {
	var all []api.Pair
	names := []string{"a", "aa", "ab", "b", "p", "pp", "q", "zzzzzz"}
	for i, name := range names {
		s := people()
		s.Name = name
		own, _ := Entries(s, row(i, "m", nil))
		all = together(all, own)
	}
	for i, name := range names {
		s := people()
		s.Name = name
		values := row(i, "m", nil)
		wantWhole(t, s, all, values)
		wantFound(t, s, pick(), all, api.OK, values)
		wantFound(t, s, find(0, "m"), all, api.OK, values)
		wantFound(t, s, find(1, nil), all, api.OK, values)
		wantPlan(t, s, insert(row(i+1, "m", nil)), all, api.ErrTaken)
		wantPlan(t, s, remove(i+1), all, api.ErrRow)
	}
}
