package session

import (
	"slices"

	"tidemark/api"
)

// overlaid gives pairs with a transaction's own writes laid over them; the keys of all three lists rise.
func overlaid(pairs []api.Pair, writes []api.Write) []api.Pair {
	var list []api.Pair
next:
	for _, p := range pairs {
		for len(writes) > 0 && writes[0].Key <= p.Key {
			w := writes[0]
			writes = writes[1:]
			list = laid(list, w)
			if w.Key == p.Key {
				continue next
			}
		}
		list = append(list, p)
	}
	for _, w := range writes {
		list = laid(list, w)
	}
	return list
}

// laid adds what a write leaves under its key: a deletion leaves nothing.
func laid(list []api.Pair, w api.Write) []api.Pair {
	if w.Delete {
		return list
	}
	return append(list, api.Pair{Key: w.Key, Value: w.Value})
}

// chosen gives those of the pairs that a read asks for, in its order. It writes into the list.
func chosen(pairs []api.Pair, op api.Op) []api.Pair {
	if op.Back {
		slices.Reverse(pairs)
	}
	if op.Limit > 0 && op.Limit < len(pairs) {
		return pairs[:op.Limit:op.Limit]
	}
	return pairs
}
