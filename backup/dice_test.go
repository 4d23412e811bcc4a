package backup

import (
	"math/rand"
	"slices"
	"strconv"
	"strings"
	"testing"

	"tidemark/api"
	"tidemark/disk"
	"tidemark/stamp"
	"tidemark/state"
	"tidemark/wal"
)

// dice draws backups, results, configurations and scripts.
type dice struct{ *rand.Rand }

func newDice(seed int64) dice { return dice{rand.New(rand.NewSource(seed))} }

func (d dice) pick(list ...string) string { return list[d.Intn(len(list))] }

func (d dice) below(n int) string { return strconv.Itoa(d.Intn(n)) }

// text draws a text of at most so many bytes, of a few of them often.
func (d dice) text(most int) string {
	some := "ab%# \n\x00\x21\x7e\x7f\xff"
	b := make([]byte, d.Intn(1+d.Intn(most+1)))
	for i := range b {
		if b[i] = byte(d.Intn(256)); d.Intn(2) == 0 {
			b[i] = some[d.Intn(len(some))]
		}
	}
	return string(b)
}

// usable draws a usable stamp.
func (d dice) usable() api.Stamp {
	s := api.Stamp{Wall: d.Uint64() >> d.Intn(64), Logical: d.Uint32() >> d.Intn(32), Node: d.Uint32() >> d.Intn(32)}
	switch d.Intn(12) {
	case 0:
		return api.Stamp{}
	case 1:
		s.Wall = topWall - 1
	}
	s.Wall = min(s.Wall, topWall-1)
	return s
}

// pairs draws at most so many pairs, their keys rising.
func (d dice) pairs(most int) []api.Pair {
	var list []api.Pair
	for range d.Intn(most + 1) {
		if key := d.text(maxKey); key != "" {
			list = append(list, api.Pair{Key: key, Value: d.text(maxValue)})
		}
	}
	slices.SortFunc(list, func(a, b api.Pair) int { return strings.Compare(a.Key, b.Key) })
	return slices.CompactFunc(list, func(a, b api.Pair) bool { return a.Key == b.Key })
}

// config draws a right configuration.
func (d dice) config() api.Config {
	c := api.Config{Shards: 1 + d.Intn(6), Clients: 1 + d.Intn(6), Capacity: api.MaxCapacity, Park: d.Intn(17), Window: uint64(d.Intn(100))}
	for len(c.Splits) < c.Shards-1 {
		if key := d.text(maxKey); key != "" && !slices.Contains(c.Splits, key) {
			c.Splits = append(c.Splits, key)
		}
	}
	slices.Sort(c.Splits)
	return c
}

func (d dice) txn() api.Txn { return txn(uint32(2+d.Intn(3)), uint32(1+d.Intn(6))) }

func (d dice) stamp() api.Stamp { return at(uint64(d.Intn(12)), uint32(d.Intn(2)), uint32(d.Intn(2))) }

// writes draws some, of a few keys.
func (d dice) writes() []api.Write {
	var list []api.Write
	for _, key := range []string{"a", "b", "c", "d"} {
		switch d.Intn(6) {
		case 0, 1:
			list = append(list, api.Write{Key: key, Value: d.pick("", d.below(9))})
		case 2:
			list = append(list, api.Write{Key: key, Delete: true})
		}
	}
	return list
}

// record draws one that follows from what a state holds, more often than not.
func (d dice) record(s *state.State) api.Record {
	held := s.Held()
	switch {
	case len(held) > 0 && d.Intn(2) == 0:
		h := held[d.Intn(len(held))]
		decided := api.Record{Kind: api.RecDecide, Txn: h.Txn, Home: h.Home, Outcome: api.Committed, At: stamp.Max(h.At, d.stamp())}
		if d.Intn(8) == 0 {
			decided.Outcome, decided.At = api.Aborted, api.Stamp{}
		}
		return decided
	case d.Intn(15) == 0:
		return api.Record{Kind: api.RecMark, At: at(uint64(d.Intn(5)), 0, 0)}
	}
	return api.Record{Kind: api.RecPrepare, Txn: d.txn(), At: d.stamp(), Writes: d.writes()}
}

// shard draws what a shard shows: a log whose end is not synced, a checkpoint now and then, and something that no shard would show, seldom.
func (d dice) shard(node uint32) api.Shown {
	bytes := disk.New(api.MaxCapacity)
	log, _, _ := wal.Open(bytes)
	s := state.New(node)
	log.Append(reserve(20))
	s.Apply(reserve(20))
	for range d.Intn(40) {
		if r := d.record(s); s.Apply(r) == api.OK || d.Intn(400) == 0 {
			log.Append(r)
		}
		if d.Intn(25) == 0 {
			log.Checkpoint(s.Image())
		}
		if d.Intn(3) == 0 {
			log.Sync()
		}
	}
	for _, h := range s.Held() {
		r := api.Record{Kind: api.RecDecide, Txn: h.Txn, Home: h.Home, Outcome: api.Aborted}
		s.Apply(r)
		log.Append(r)
	}
	if d.Intn(5) > 0 {
		log.Sync()
	}
	shown := api.Shown{Last: at(uint64(6+d.Intn(20)), 0, node), Watermark: d.stamp()}
	for slot := range api.Slots {
		shown.Written[slot] = bytes.Bytes(slot)
		shown.Disk[slot] = bytes.Bytes(slot)[:bytes.Synced(slot)]
	}
	return shown
}

// result draws any result; no run gives one in which two shards have one key.
func (d dice) result() api.Result {
	var r api.Result
	for node := range d.Intn(4) {
		r.Shards = append(r.Shards, d.shard(uint32(node)))
	}
	return r
}

func wantSeen(t *testing.T, seen map[string]int, names ...string) {
	t.Helper()
	for _, name := range names {
		if seen[name] < 20 {
			t.Errorf("drawn too seldom: %s (%v)", name, seen)
		}
	}
}
