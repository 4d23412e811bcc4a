// Package durable: the durable state of a shard that a result shows: see doc/19-feed.md. Layers that look at results share it.
package durable

import (
	"tidemark/api"
	"tidemark/state"
	"tidemark/wal"
)

// State gives the state that the synced bytes of the shard at that place hold, an empty one if nothing can be made of them.
func State(place int, s api.Shown) *state.State {
	node := uint32(place)
	_, records := wal.Pick(s.Disk[0], s.Disk[1])
	kept, e := state.Replay(node, records)
	if e != api.OK {
		return state.New(node)
	}
	return kept
}
