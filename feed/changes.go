package feed

import (
	"cmp"
	"iter"
	"slices"

	"tidemark/api"
	"tidemark/audit"
	"tidemark/stamp"
)

// Changes tells what the commits at or above one stamp and below another one have written, in their order, each one's writes by key (P19.2).
func Changes(r api.Result, from, to api.Stamp) []api.Version {
	var list []api.Version
	events := byTxn(r.Events)
	for c := range commits(r.Commits) {
		if !stamp.Less(c.At, to) {
			break
		}
		if stamp.Less(c.At, from) {
			continue
		}
		for _, w := range audit.Writes(api.Result{Events: events[c.Txn]}, c.Txn) {
			list = append(list, api.Version{Key: w.Key, At: c.At, Delete: w.Delete, Value: w.Value})
		}
	}
	return list
}

// byTxn parts the events by their transactions, each one's in their order, so that no commit has to look through those of all others.
func byTxn(events []api.Event) map[api.Txn][]api.Event {
	parts := map[api.Txn][]api.Event{}
	for _, e := range events {
		parts[e.Answer.Txn] = append(parts[e.Answer.Txn], e)
	}
	return parts
}

// commits goes over the entries that are commits: by stamp, then by transaction.
func commits(entries []api.Entry) iter.Seq[api.Entry] {
	return func(yield func(api.Entry) bool) {
		for _, e := range slices.SortedFunc(slices.Values(entries), inTurn) {
			if e.Outcome == api.Committed && !yield(e) {
				return
			}
		}
	}
}

// inTurn tells which of two commits comes first.
func inTurn(a, b api.Entry) int {
	return cmp.Or(
		stamp.Compare(a.At, b.At),
		cmp.Compare(a.Txn.Client, b.Txn.Client),
		cmp.Compare(a.Txn.Seq, b.Txn.Seq))
}
