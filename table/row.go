package table

import (
	"slices"
	"strings"

	"tidemark/api"
	"tidemark/tuple"
	"tidemark/valid"
)

// mayStand tells whether values may stand in columns, or in the first of them: they may not be more.
func mayStand(values []api.Value, columns []api.Column) bool {
	if len(values) > len(columns) || tuple.Valid(values) != api.OK {
		return false
	}
	for i, v := range values {
		if v.Kind != columns[i].Kind && !(v.Kind == api.ValNull && columns[i].Null) {
			return false
		}
	}
	return true
}

// pairsOf gives the pairs of a row, or tells that it is none.
func pairsOf(s api.Schema, row []api.Value) (pairs []api.Pair, ok bool) {
	if len(row) != len(s.Columns) || !mayStand(row, s.Columns) {
		return nil, false
	}
	pairs = append(pairs, api.Pair{Key: keyOf(s, rowPairs, row[:s.Key]), Value: code(row[s.Key:])})
	for place := range s.Indexes {
		pairs = append(pairs, entry(s, place, row))
	}
	if slices.ContainsFunc(pairs, fitsNot) {
		return nil, false
	}
	return pairs, true
}

func fitsNot(p api.Pair) bool { return !valid.Key(p.Key) || !valid.Value(p.Value) }

// entry gives a row's entry in the index at a place.
func entry(s api.Schema, place int, row []api.Value) api.Pair {
	key, values := row[:s.Key], valuesAt(row, s.Indexes[place].Columns)
	if owns(s, place, row) {
		return api.Pair{Key: keyOf(s, place+1, values), Value: code(key)}
	}
	return api.Pair{Key: keyOf(s, place+1, slices.Concat(values, key))}
}

// owns tells whether no other row may have the values that this one has in the index at a place.
func owns(s api.Schema, place int, row []api.Value) bool {
	x := s.Indexes[place]
	return x.Unique && !slices.Contains(valuesAt(row, x.Columns), api.Value{})
}

// owned gives a row's entries in the indexes in which it owns its values.
func owned(s api.Schema, row []api.Value) []api.Pair {
	var pairs []api.Pair
	for place := range s.Indexes {
		if owns(s, place, row) {
			pairs = append(pairs, entry(s, place, row))
		}
	}
	return pairs
}

func valuesAt(row []api.Value, places []int) []api.Value {
	var values []api.Value
	for _, i := range places {
		values = append(values, row[i])
	}
	return values
}

// rowOf gives the row that a pair makes, or tells that it makes none. No two lists have one code: so what its texts are the code of is the row's, if it is a row.
func rowOf(s api.Schema, p api.Pair) (row []api.Value, ok bool) {
	left, ok := strings.CutPrefix(p.Key, keyOf(s, rowPairs, nil))
	if !ok {
		return nil, false
	}
	key, e := tuple.Decode(left)
	if e != api.OK || len(key) != s.Key {
		return nil, false
	}
	others, e := tuple.Decode(p.Value)
	if e != api.OK {
		return nil, false
	}
	row = append(key, others...)
	if _, ok := pairsOf(s, row); !ok {
		return nil, false
	}
	return row, true
}

// rowsOf gives all rows that pairs make, in the order of the pairs.
func rowsOf(s api.Schema, pairs []api.Pair) [][]api.Value {
	var rows [][]api.Value
	for _, p := range pairs {
		if row, ok := rowOf(s, p); ok {
			rows = append(rows, row)
		}
	}
	return rows
}
