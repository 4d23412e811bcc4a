package session

import (
	"maps"
	"slices"

	"tidemark/api"
	"tidemark/locks"
)

// transaction is the one that is open.
type transaction struct {
	id       api.Txn
	start    api.Stamp
	readOnly bool
	reads    []api.Span // its footprint
	writes   map[string]api.Write
}

// mayRead tells whether the footprint has room for a span, or has it already.
func (t *transaction) mayRead(span api.Span) bool {
	return len(t.reads) < api.MaxReads || slices.Contains(t.reads, span)
}

// noteRead takes a span into the footprint. A read-only transaction keeps none: it is never prepared.
func (t *transaction) noteRead(span api.Span) {
	if !t.readOnly && !slices.Contains(t.reads, span) {
		t.reads = append(t.reads, span)
	}
}

// write keeps a put or a deletion in the place of what was written under its key, if there is room.
func (t *transaction) write(w api.Write) api.Errno {
	if t.readOnly {
		return api.ErrReadOnly
	}
	if _, there := t.writes[w.Key]; !there && len(t.writes) >= api.MaxWrites {
		return api.ErrMany
	}
	t.writes[w.Key] = w
	return api.OK
}

// written gives the writes inside a span, keys rising.
func (t *transaction) written(span api.Span) []api.Write {
	var list []api.Write
	for _, key := range slices.Sorted(maps.Keys(t.writes)) {
		if locks.Inside(key, span) {
			list = append(list, t.writes[key])
		}
	}
	return list
}
