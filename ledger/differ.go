package ledger

import (
	"slices"

	"tidemark/api"
)

// view is what several ledgers say of one transaction.
type view struct {
	first  api.Entry
	differ bool
}

// Differ tells the transactions of which two of the ledgers hold different outcomes or stamps, by their ids (P11.8).
func Differ(list ...*Ledger) []api.Txn {
	views := map[api.Txn]view{}
	for _, l := range list {
		if l != nil {
			l.tell(views)
		}
	}
	var ids []api.Txn
	for txn, v := range views {
		if v.differ {
			ids = append(ids, txn)
		}
	}
	slices.SortFunc(ids, byID)
	return ids
}

// tell adds what this ledger says. To hold it against the first entry of each transaction is enough: two that agree with that one agree with each other.
func (l *Ledger) tell(views map[api.Txn]view) {
	for txn, e := range l.entries {
		v, there := views[txn]
		if !there {
			v.first = e
		} else if !agree(e, v.first) {
			v.differ = true
		}
		views[txn] = v
	}
}
