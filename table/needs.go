package table

import (
	"tidemark/api"
	"tidemark/valid"
)

// Needs gives the spans that must be read for an operation (P26.4).
func Needs(s api.Schema, op api.TableOp) ([]api.Span, api.Errno) {
	if !mayBe(s) {
		return nil, api.ErrSchema
	}
	if !mayAsk(s, op) {
		return nil, api.ErrArg
	}
	return needs(s, op), api.OK
}

// needs gives the spans of an operation that may be.
func needs(s api.Schema, op api.TableOp) []api.Span {
	switch op.Kind {
	case api.TabSelect:
		return []api.Span{under(s, rowPairs, op.Row)}
	case api.TabFind:
		return []api.Span{under(s, op.Index+1, op.Row), under(s, rowPairs, nil)}
	}
	spans := []api.Span{point(keyOf(s, rowPairs, op.Row[:s.Key]))}
	if op.Kind == api.TabDelete {
		return spans
	}
	for _, p := range owned(s, op.Row) {
		spans = append(spans, point(p.Key))
	}
	return spans
}

func point(key string) api.Span { return api.Span{Lo: key, Hi: key + "\x00"} }

// mayAsk tells whether an operation may be.
func mayAsk(s api.Schema, op api.TableOp) bool {
	if op.Kind == api.TabFind {
		return op.Index >= 0 && op.Index < len(s.Indexes) && mayLead(s, op.Index+1, op.Row, columnsAt(s, s.Indexes[op.Index].Columns))
	}
	if op.Index != 0 {
		return false
	}
	switch op.Kind {
	case api.TabInsert, api.TabUpdate:
		_, ok := pairsOf(s, op.Row)
		return ok
	case api.TabDelete:
		return len(op.Row) == s.Key && mayLead(s, rowPairs, op.Row, s.Columns[:s.Key])
	case api.TabSelect:
		return mayLead(s, rowPairs, op.Row, s.Columns[:s.Key])
	}
	return false
}

// mayLead tells whether values may be the first of those columns, and whether a key can begin with that number and them.
func mayLead(s api.Schema, number int, values []api.Value, columns []api.Column) bool {
	return mayStand(values, columns) && valid.Key(keyOf(s, number, values))
}

func columnsAt(s api.Schema, places []int) []api.Column {
	var columns []api.Column
	for _, i := range places {
		columns = append(columns, s.Columns[i])
	}
	return columns
}

// writes tells whether operations of a kind are writing ones.
func writes(k api.TableKind) bool {
	return k == api.TabInsert || k == api.TabUpdate || k == api.TabDelete
}
