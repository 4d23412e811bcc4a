package table

import (
	"math"
	"math/rand"
	"slices"
	"testing"

	"tidemark/api"
	"tidemark/tuple"
)

// dice draws schemas, rows, operations, pairs and texts: of few values, so that they meet often.
type dice struct{ *rand.Rand }

func newDice(seed int64) dice { return dice{rand.New(rand.NewSource(seed))} }

// names draws n names, no two alike.
func (d dice) names(n int) []string {
	all := []string{"a", "b", "id", "mail", "age", "key", "index", "unique", "table", "column", "int", "abcdefgh"}
	d.Shuffle(len(all), func(i, j int) { all[i], all[j] = all[j], all[i] })
	return all[:n]
}

// upTo draws a number that is small more often than not.
func (d dice) upTo(most int) int { return d.Intn(1 + d.Intn(1+most)) }

func (d dice) schema() api.Schema {
	s := api.Schema{Name: []string{"p", "p", "p", "q", "pp", "abcdef"}[d.Intn(6)]}
	for _, name := range d.names(1 + d.upTo(7)) {
		s.Columns = append(s.Columns, api.Column{Name: name, Kind: api.ValueKind(1 + d.Intn(3)), Null: d.Intn(2) == 0})
	}
	s.Key = 1 + d.upTo(len(s.Columns)-1)
	for i := range s.Key {
		s.Columns[i].Null = false
	}
	for _, name := range d.names(d.Intn(5)) {
		x := api.Index{Name: name, Unique: d.Intn(2) == 0}
		x.Columns = d.Perm(len(s.Columns))[:1+d.upTo(len(s.Columns)-1)]
		s.Indexes = append(s.Indexes, x)
	}
	return s
}

// spoiltSchema draws a schema that is like another one but for one thing, and that may be none.
func (d dice) spoiltSchema(s api.Schema) api.Schema {
	s.Columns, s.Indexes = slices.Clone(s.Columns), slices.Clone(s.Indexes)
	name := []string{"", "A", "a1", "abcdefg", "abcdefghi", "\xe4", "a b", "a"}[d.Intn(8)]
	c := &s.Columns[d.Intn(len(s.Columns))]
	x := &api.Index{}
	if len(s.Indexes) > 0 {
		x = &s.Indexes[d.Intn(len(s.Indexes))]
		x.Columns = slices.Clone(x.Columns)
	}
	switch d.Intn(12) {
	case 0:
		s.Name = name
	case 1:
		c.Name = name
	case 2:
		c.Name = s.Columns[d.Intn(len(s.Columns))].Name
	case 3:
		c.Kind = api.ValueKind(d.Intn(7) - 1)
	case 4:
		c.Null = !c.Null
	case 5:
		s.Key = []int{math.MinInt, -1, 0, 1, 2, 3, len(s.Columns), len(s.Columns) + 1, math.MaxInt}[d.Intn(9)]
	case 6:
		s.Columns = append(s.Columns, make([]api.Column, d.Intn(10))...)
	case 7:
		s.Indexes = append(s.Indexes, api.Index{Name: name, Columns: []int{0}})
	case 8:
		x.Name = name
	case 9:
		if len(s.Indexes) > 0 {
			x.Name = s.Indexes[d.Intn(len(s.Indexes))].Name
		}
	case 10:
		x.Columns = append(x.Columns, d.Intn(len(s.Columns)+2)-1)
	case 11:
		x.Columns = x.Columns[:d.Intn(len(x.Columns)+1)]
	}
	return s
}

func (d dice) valueOf(c api.Column) api.Value {
	if c.Null && d.Intn(4) == 0 {
		return value(nil)
	}
	switch c.Kind {
	case api.ValBool:
		return value(d.Intn(2) == 0)
	case api.ValInt:
		return value([]int{0, 1, 1, 2, 2, 3, -1, 300, math.MinInt64}[d.Intn(9)])
	}
	return value([]string{"", "a", "a", "b", "b", "ab", "\x00", "\xff", "abcdefghij"}[d.Intn(9)])
}

func (d dice) row(s api.Schema) []api.Value {
	var values []api.Value
	for _, c := range s.Columns {
		values = append(values, d.valueOf(c))
	}
	return values
}

// goodRow draws a row that fits, if it finds one.
func (d dice) goodRow(s api.Schema) ([]api.Value, bool) {
	for range 20 {
		if values := d.row(s); modelRow(s, values) {
			return values, true
		}
	}
	return nil, false
}

// spoiltValues draws a list of values that is like another one but for one thing.
func (d dice) spoiltValues(values []api.Value) []api.Value {
	values = slices.Clone(values)
	odd := []api.Value{value(nil), value(true), value(7), value("x"), {Kind: 4}, {Kind: -1}, {Int: 1}, {Kind: api.ValInt, Flag: true}, {Kind: api.ValText, Int: 1}}[d.Intn(9)]
	switch {
	case d.Intn(4) == 0:
		return append(values, odd)
	case len(values) == 0:
	case d.Intn(3) == 0:
		return values[:len(values)-1]
	default:
		values[d.Intn(len(values))] = odd
	}
	return values
}

// op draws an operation: of a row or beginnings of it, spoilt now and then.
func (d dice) op(s api.Schema, values []api.Value) api.TableOp {
	op := api.TableOp{Kind: api.TableKind(1 + d.Intn(5)), Row: values}
	switch op.Kind {
	case api.TabDelete:
		op.Row = values[:s.Key]
	case api.TabSelect:
		op.Row = values[:d.Intn(s.Key+1)]
	case api.TabFind:
		if len(s.Indexes) > 0 {
			op.Index = d.Intn(len(s.Indexes))
			op.Row = modelValues(values, s.Indexes[op.Index].Columns)
			op.Row = op.Row[:d.Intn(len(op.Row)+1)]
		}
	}
	return op
}

func (d dice) spoiltOp(op api.TableOp) api.TableOp {
	switch d.Intn(4) {
	case 0:
		op.Index = []int{math.MinInt, -1, 0, 1, 2, 4, math.MaxInt}[d.Intn(7)]
	case 1:
		op.Kind = api.TableKind([]int{math.MinInt, -1, 0, 1, 2, 3, 4, 5, 6, math.MaxInt}[d.Intn(10)])
	default:
		op.Row = d.spoiltValues(op.Row)
	}
	return op
}

// foreign draws a pair that no row of the table has: of another table's, or of none's, or a strange one within the table's span.
func (d dice) foreign(s api.Schema) api.Pair {
	name := codeOf(s.Name)
	keys := []string{"", "\x00", "a", "\xff", codeOf("o", 0, 1), codeOf("pq", 0, 1), codeOf("q", 1, "a"), codeOf("abcdeg", 0, 0), codeOf(0, s.Name), codeOf(s.Name + "\x00"), name + "\xff", name[:len(name)-1], codeOf(s.Name + "a")}
	if d.Intn(4) == 0 {
		keys = []string{name, name + "\x00", name + "\x18", name + "\x18\x00", name + "\xfe", codeOf(s.Name, nil), codeOf(s.Name, 0, "a", 1), codeOf(s.Name, 1, 1), codeOf(s.Name, 5, 1), codeOf(s.Name, -1, 1), codeOf(s.Name, "a"), codeOf(s.Name, 1), codeOf(s.Name, 0, nil)}
	}
	return api.Pair{Key: keys[d.Intn(len(keys))], Value: []string{"", "x", codeOf(1), codeOf("a", nil)}[d.Intn(4)]}
}

// spoiltPair draws a pair that is like another one: with another value, or another key.
func (d dice) spoiltPair(p api.Pair) api.Pair {
	switch d.Intn(6) {
	case 0:
		p.Value = []string{"", "x", codeOf(1), codeOf(2), codeOf(nil), codeOf("a")}[d.Intn(6)]
	case 1:
		p.Value += []string{codeOf(nil), codeOf(1), "\x19", "\x00"}[d.Intn(4)]
	case 2:
		p.Key += []string{codeOf(nil), codeOf(1), "\x19", "\x00", "\xff"}[d.Intn(5)]
	case 3:
		p.Key = p.Key[:d.Intn(len(p.Key)+1)]
	case 4:
		values, _ := tuple.Decode(p.Value)
		p.Value, _ = tuple.Encode(d.spoiltValues(values))
	default:
		values, _ := tuple.Decode(p.Key)
		p.Key, _ = tuple.Encode(d.spoiltValues(values))
	}
	return p
}

// pairs draws those of a few rows, with others among them, some of them spoilt.
func (d dice) pairs(s api.Schema) []api.Pair {
	var all []api.Pair
	for range d.Intn(5) {
		if values, ok := d.goodRow(s); ok {
			own := modelPairs(s, values)
			d.Shuffle(len(own), func(i, j int) { own[i], own[j] = own[j], own[i] }) // of two rows at one key, together takes either's
			all = append(all, own...)
		}
	}
	spoils := d.Intn(3)
	for range spoils {
		if len(all) == 0 {
			break
		}
		i := d.Intn(len(all))
		switch d.Intn(3) {
		case 0:
			all = slices.Delete(all, i, i+1)
		case 1:
			all = append(all, d.spoiltPair(all[i]))
		default:
			all[i] = d.spoiltPair(all[i])
		}
	}
	if spoils > 0 || d.Intn(2) == 0 {
		for range d.Intn(3) {
			all = append(all, d.foreign(s))
		}
	}
	d.Shuffle(len(all), func(i, j int) { all[i], all[j] = all[j], all[i] })
	return together(all)
}

// unruly draws pairs whose keys don't rise, if there are two of them.
func (d dice) unruly(pairs []api.Pair) []api.Pair {
	pairs = slices.Clone(pairs)
	if len(pairs) < 2 {
		return pairs
	}
	i := 1 + d.Intn(len(pairs)-1)
	if d.Intn(2) == 0 {
		pairs[i].Key = pairs[i-1].Key
	} else {
		pairs[i-1], pairs[i] = pairs[i], pairs[i-1]
	}
	return pairs
}

// spoiltText draws a text that is like another one, with a piece in it that another one may have there.
func (d dice) spoiltText(text string) string {
	i := d.Intn(len(text) + 1)
	j := i + d.Intn(min(len(text)-i, 5)+1)
	one := string([]byte{byte(d.Intn(256))})
	pieces := []string{"", "", one, " ", "\n", "?", "0", "1", "8", "9", "a", "int", "bool", "text", "key 1\n", "index a a\n", "unique b id\n", "column c int\n", "column d text?\n", "table p\n", " a", " id"}
	return text[:i] + pieces[d.Intn(len(pieces))] + text[j:]
}

func wantSeen(t *testing.T, seen map[string]int, names ...string) {
	t.Helper()
	for _, name := range names {
		if seen[name] < 20 {
			t.Errorf("drawn too seldom: %s (%v)", name, seen)
		}
	}
}
