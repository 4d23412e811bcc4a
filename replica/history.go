package replica

import (
	"slices"

	"tidemark/api"
	"tidemark/asof"
	"tidemark/mvcc"
)

// history is a replica's versions and its base: a store whose watermark is the base.
type history struct {
	store mvcc.Store
}

// Base tells the stamp from which on the replica can be read (P23.3).
func (h *history) Base() api.Stamp { return h.store.Watermark() }

// Len counts the versions (P23.3).
func (h *history) Len() int { return h.store.Len() }

// begin makes pairs the versions of a new history, all at its base.
func (h *history) begin(base api.Stamp, pairs []api.Pair) {
	var puts []api.Write
	for _, p := range pairs {
		puts = append(puts, api.Write{Key: p.Key, Value: p.Value})
	}
	h.take(base, puts)
	h.rise(base) // none of them goes: each is the newest of its key
}

// take makes a commit's writes versions, in pieces, since the store takes no more than one transaction's at once: a backup's pairs are more, and so are commits that a caller makes up. The store refuses none of what is known to have no fault.
func (h *history) take(at api.Stamp, writes []api.Write) {
	for piece := range slices.Chunk(writes, api.MaxWrites) {
		h.store.Install(piece, at)
	}
}

// read tells the pairs of a span at a stamp that is not below the base.
func (h *history) read(span api.Span, at api.Stamp) ([]api.Pair, api.Errno) {
	return h.store.Read(span, at)
}

// pairs gives all pairs at a stamp, however many.
func (h *history) pairs(at api.Stamp) []api.Pair { return asof.Pairs(h.store.Dump(), at) }

// rise raises the base and counts the versions that go.
func (h *history) rise(base api.Stamp) int { return h.store.Prune(base) }
