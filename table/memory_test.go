package table

import (
	"slices"
	"testing"

	"tidemark/api"
)

// roomy gives a list with spare room behind it, in which something stands.
func roomy[T any](list []T, spare T) []T {
	return append(append(make([]T, 0, len(list)+2), list...), spare, spare)[:len(list)]
}

func spoil[T any](list []T, odd T) {
	list = list[:cap(list)]
	for i := range list {
		list[i] = odd
	}
}

// given is what calls are handed, each list with spare room.
type given struct {
	schema api.Schema
	op     api.TableOp
	pairs  []api.Pair
}

func newGiven(s api.Schema, op api.TableOp, pairs []api.Pair) given {
	s.Columns = roomy(s.Columns, api.Column{Name: "spare"})
	s.Indexes = roomy(s.Indexes, api.Index{Name: "spare"})
	for i, x := range s.Indexes {
		s.Indexes[i].Columns = roomy(x.Columns, 99)
	}
	op.Row = roomy(op.Row, value("spare"))
	return given{s, op, roomy(pairs, api.Pair{Key: "spare"})}
}

func (g given) same(h given) bool {
	s, t := g.schema, h.schema
	s.Columns, t.Columns = s.Columns[:cap(s.Columns)], t.Columns[:cap(t.Columns)]
	s.Indexes, t.Indexes = slices.Clone(s.Indexes[:cap(s.Indexes)]), slices.Clone(t.Indexes[:cap(t.Indexes)])
	for _, list := range [][]api.Index{s.Indexes, t.Indexes} {
		for i, x := range list {
			list[i].Columns = x.Columns[:cap(x.Columns)]
		}
	}
	return sameSchema(s, t) && slices.Equal(g.op.Row[:cap(g.op.Row)], h.op.Row[:cap(h.op.Row)]) && slices.Equal(g.pairs[:cap(g.pairs)], h.pairs[:cap(h.pairs)])
}

// answers are the lists that calls give.
type answers struct {
	entries []api.Pair
	spans   []api.Span
	writes  []api.Write
	found   [][]api.Value
	rows    [][]api.Value
	schema  api.Schema
}

func (g given) ask(text string) (a answers) {
	values := g.op.Row
	a.entries, _ = Entries(g.schema, values)
	a.spans, _ = Needs(g.schema, g.op)
	a.writes, _ = Plan(g.schema, g.op, g.pairs)
	a.found, _ = Find(g.schema, g.op, g.pairs)
	a.rows, _ = Rows(g.schema, g.pairs)
	Check(g.schema, g.pairs)
	Span(g.schema)
	Text(g.schema)
	a.schema, _ = Parse(text)
	return a
}

func (a answers) same(b answers) bool {
	return slices.Equal(a.entries, b.entries) && slices.Equal(a.spans, b.spans) && slices.Equal(a.writes, b.writes) && sameRows(a.found, b.found) && sameRows(a.rows, b.rows) && sameSchema(a.schema, b.schema)
}

func (a answers) spoil() {
	spoil(a.entries, api.Pair{Key: "spoilt"})
	spoil(a.spans, api.Span{Lo: "spoilt"})
	spoil(a.writes, api.Write{Key: "spoilt"})
	for _, list := range [][][]api.Value{a.found, a.rows} {
		for _, values := range list {
			spoil(values, value("spoilt"))
		}
		spoil(list, nil)
	}
	for _, x := range a.schema.Indexes {
		spoil(x.Columns, 98)
	}
	spoil(a.schema.Indexes, api.Index{Name: "spoilt"})
	spoil(a.schema.Columns, api.Column{Name: "spoilt"})
}

// P26.9: nothing that is handed in is changed, spare room included; what is answered is new memory.
func TestMemory(t *testing.T) {
	seen := map[string]int{}
	for seed := range int64(3000) {
		d := newDice(seed)
		s := d.schema()
		pairs := d.pairs(s)
		if d.Intn(4) == 0 {
			pairs = nil
			if values, ok := d.goodRow(s); ok {
				pairs = modelPairs(s, values)
			}
		}
		op := d.op(s, d.rowNear(s, pairs))
		if d.Intn(4) == 0 {
			op = d.spoiltOp(op)
		}
		text, _ := Text(s)
		g, before := newGiven(s, op, pairs), newGiven(s, op, pairs)
		first := g.ask(text)
		second := g.ask(text)
		first.spoil()
		third := g.ask(text)
		if !g.same(before) {
			t.Fatalf("seed %d: what was handed in is changed: %v, it was %v", seed, g, before)
		}
		if !second.same(third) {
			t.Fatalf("seed %d: answers share memory: %v, %v", seed, second, third)
		}
		for name, n := range map[string]int{"entries": len(second.entries), "spans": len(second.spans), "writes": len(second.writes), "found": len(second.found), "rows": len(second.rows)} {
			if n > 0 {
				seen[name]++
			}
		}
	}
	wantSeen(t, seen, "entries", "spans", "writes", "found", "rows")
}

// P26.9: the rows of one list share nothing with one another, spare room included.
func TestRowsAreApart(t *testing.T) {
	s := people()
	both := together(pairs1(), pairs2())
	for name, ask := range map[string]func() ([][]api.Value, api.Errno){
		"Rows":   func() ([][]api.Value, api.Errno) { return Rows(s, both) },
		"select": func() ([][]api.Value, api.Errno) { return Find(s, pick(), both) },
		"find":   func() ([][]api.Value, api.Errno) { return Find(s, find(0), both) },
	} {
		list, e := ask()
		if e != api.OK || len(list) != 2 {
			t.Fatalf("%s: %v, %d", name, list, e)
		}
		spoil(list[0], value("spoilt"))
		if !slices.Equal(list[1], row2()) {
			t.Errorf("%s: with the first row spoilt the second is %v", name, list[1])
		}
		list, _ = ask()
		spoil(list[1], value("spoilt"))
		if !slices.Equal(list[0], row1()) {
			t.Errorf("%s: with the second row spoilt the first is %v", name, list[0])
		}
	}
}
