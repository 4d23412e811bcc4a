package inspect

import (
	"tidemark/api"
	"tidemark/durable"
	"tidemark/state"
)

// states are the durable states of all shards of a result, by their places.
type states []*state.State

func statesOf(r api.Result) states {
	var all states
	for place, s := range r.Shards {
		all = append(all, durable.State(place, s))
	}
	return all
}

// outcome tells the outcome of a transaction at a place: the zero entry, if none stands there, or no shard is there.
func (all states) outcome(place uint32, txn api.Txn) api.Entry {
	if uint64(place) >= uint64(len(all)) {
		return api.Entry{}
	}
	e, _ := all[place].Outcome(txn)
	return e
}

// Fate tells what the homes' disks say of the transactions that a shard's disk holds, by transaction (P24.4).
func Fate(r api.Result, shard int) []api.Entry {
	if shard < 0 || shard >= len(r.Shards) {
		return nil
	}
	all := statesOf(r)
	var list []api.Entry
	for _, h := range all[shard].Held() {
		decided := all.outcome(h.Home, h.Txn)
		list = append(list, api.Entry{Txn: h.Txn, Home: h.Home, Outcome: decided.Outcome, At: decided.At})
	}
	return list
}
