package table

import (
	"slices"
	"strings"

	"tidemark/api"
)

// Plan gives the writes of a writing operation, by what was read (P26.5, P26.10).
func Plan(s api.Schema, op api.TableOp, pairs []api.Pair) ([]api.Write, api.Errno) {
	if !mayBe(s) {
		return nil, api.ErrSchema
	}
	if !writes(op.Kind) || !mayAsk(s, op) || !rise(pairs) {
		return nil, api.ErrArg
	}
	before, e := standing(s, op, pairs)
	if e != api.OK {
		return nil, e
	}
	if op.Kind == api.TabDelete {
		return changes(before, nil), api.OK
	}
	if taken(s, op, pairs) {
		return nil, api.ErrTaken
	}
	after, _ := pairsOf(s, op.Row)
	return changes(before, after), api.OK
}

// standing gives the pairs of the old row. An insert has none.
func standing(s api.Schema, op api.TableOp, pairs []api.Pair) ([]api.Pair, api.Errno) {
	p, there := at(pairs, keyOf(s, rowPairs, op.Row[:s.Key]))
	switch {
	case op.Kind == api.TabInsert && there:
		return nil, api.ErrTaken
	case op.Kind == api.TabInsert:
		return nil, api.OK
	case !there:
		return nil, api.ErrRow
	}
	old, ok := rowOf(s, p)
	if !ok {
		return nil, api.ErrTorn
	}
	before, _ := pairsOf(s, old)
	return before, api.OK
}

// taken tells whether another row owns values that the row is to own. What an update finds there may be the row's own.
func taken(s api.Schema, op api.TableOp, pairs []api.Pair) bool {
	return slices.ContainsFunc(owned(s, op.Row), func(own api.Pair) bool {
		p, there := at(pairs, own.Key)
		return there && (op.Kind == api.TabInsert || p != own)
	})
}

// changes gives the writes that make a row's pairs of those before.
func changes(before, after []api.Pair) []api.Write {
	var list []api.Write
	for _, p := range after {
		if !slices.Contains(before, p) {
			list = append(list, api.Write{Key: p.Key, Value: p.Value})
		}
	}
	for _, p := range before {
		if _, there := at(after, p.Key); !there {
			list = append(list, api.Write{Key: p.Key, Delete: true})
		}
	}
	slices.SortFunc(list, func(a, b api.Write) int { return strings.Compare(a.Key, b.Key) })
	return list
}
