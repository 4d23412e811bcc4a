package inspect

import (
	"cmp"
	"maps"
	"slices"

	"tidemark/api"
	"tidemark/stamp"
)

// account is what all states say of one transaction.
type account struct {
	outcomes []api.Entry
	held     api.Stamp // the greatest prepare stamp at which a state holds it; where none does the zero stamp, which is above nothing
}

// Doctor tells the first transaction about which the disks say what cannot be, and why (P24.5).
func Doctor(r api.Result) (api.Errno, api.Txn) {
	all := statesOf(r)
	said := all.accounts()
	for _, txn := range slices.SortedFunc(maps.Keys(said), compareTxns) {
		if e := all.fault(said[txn]); e != api.OK {
			return e, txn
		}
	}
	return api.OK, api.Txn{}
}

func compareTxns(a, b api.Txn) int {
	return cmp.Or(cmp.Compare(a.Client, b.Client), cmp.Compare(a.Seq, b.Seq))
}

// accounts gathers what the states say, by transaction.
func (all states) accounts() map[api.Txn]account {
	said := map[api.Txn]account{}
	for _, one := range all {
		for _, e := range one.Entries() {
			a := said[e.Txn]
			a.outcomes = append(a.outcomes, e)
			said[e.Txn] = a
		}
		for _, h := range one.Held() {
			a := said[h.Txn]
			a.held = stamp.Max(a.held, h.At)
			said[h.Txn] = a
		}
	}
	return said
}

// fault tells what cannot be of what is said of a transaction; of one without an outcome nothing.
func (all states) fault(a account) api.Errno {
	switch {
	case slices.ContainsFunc(a.outcomes, a.denies):
		return api.ErrOutcome
	case slices.ContainsFunc(a.outcomes, all.lost):
		return api.ErrLost
	case slices.ContainsFunc(a.outcomes, a.heldAbove):
		return api.ErrHeld
	}
	return api.OK
}

// denies tells whether an outcome is another one than the first that is said.
func (a account) denies(e api.Entry) bool {
	first := a.outcomes[0]
	return e.Outcome != first.Outcome || e.At != first.At
}

// lost tells whether an outcome is Committed, and its home knows nothing of it.
func (all states) lost(e api.Entry) bool {
	return e.Outcome == api.Committed && all.outcome(e.Home, e.Txn).Outcome != api.Committed
}

// heldAbove tells whether an outcome is Committed, and the transaction is held above it.
func (a account) heldAbove(e api.Entry) bool {
	return e.Outcome == api.Committed && stamp.Less(e.At, a.held)
}
