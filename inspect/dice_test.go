package inspect

import (
	"math/rand"
	"slices"
	"strconv"
	"testing"

	"tidemark/api"
	"tidemark/stamp"
	"tidemark/state"
)

// dice draws records, lines, disks, results and scripts.
type dice struct{ *rand.Rand }

func newDice(seed int64) dice { return dice{rand.New(rand.NewSource(seed))} }

func (d dice) pick(list ...string) string { return list[d.Intn(len(list))] }

func (d dice) below(n int) string { return strconv.Itoa(d.Intn(n)) }

// text draws a text of at most so many bytes, of a few of them often.
func (d dice) text(most int) string {
	some := "ab% \n\x00\x21\x7e\x7f\xff"
	b := make([]byte, d.Intn(1+d.Intn(most+1)))
	for i := range b {
		if b[i] = byte(d.Intn(256)); d.Intn(2) == 0 {
			b[i] = some[d.Intn(len(some))]
		}
	}
	return string(b)
}

func (d dice) small() uint32 { return d.Uint32() >> d.Intn(33) }

func (d dice) wall() uint64 { return d.Uint64() >> d.Intn(65) }

// usable draws any usable stamp.
func (d dice) usable() api.Stamp { return at(min(d.wall(), topWall-1), d.small(), d.small()) }

// anyRecord draws any valid record.
func (d dice) anyRecord() api.Record {
	id := txn(d.small(), max(d.small(), 1))
	switch d.Intn(6) {
	case 0:
		return reserved(d.wall())
	case 1:
		return committed(id, d.small(), d.usable())
	case 2:
		return aborted(id, d.small())
	case 3:
		return marked(d.usable())
	case 4:
		return imaged(d.text(200))
	}
	r := prepared(id, d.small(), d.usable(), d.anyWrites()...)
	for range d.Intn(4) {
		s := api.Span{Lo: d.text(33), Hi: d.text(33)}
		if s.Hi <= s.Lo {
			s.Hi = ""
		}
		r.Reads = append(r.Reads, s)
	}
	if len(r.Reads)+len(r.Writes) == 0 {
		r.Reads = []api.Span{{}}
	}
	return r
}

// anyWrites draws any valid writes.
func (d dice) anyWrites() []api.Write {
	var list []api.Write
	for range d.Intn(5) {
		key := d.text(32)
		if key == "" || slices.ContainsFunc(list, func(w api.Write) bool { return w.Key == key }) {
			continue
		}
		if d.Intn(3) == 0 {
			list = append(list, deleted(key))
		} else {
			list = append(list, put(key, d.text(64)))
		}
	}
	slices.SortFunc(list, func(a, b api.Write) int {
		if a.Key < b.Key {
			return -1
		}
		return 1
	})
	return list
}

// spoilt draws a line that is like another one.
func (d dice) spoilt(line string) string {
	i := d.Intn(len(line) + 1)
	j := i + d.Intn(min(len(line)-i, 6)+1)
	return line[:i] + d.pick("", "", "0", "1", "9", "a", "%", " ", ".", "%20", "\n", " put", " x", " read % %", d.text(2)) + line[j:]
}

// record draws one that follows from what a state holds, more often than not.
func (d dice) record(s *state.State) api.Record {
	held := s.Held()
	switch {
	case len(held) > 0 && d.Intn(2) == 0:
		h := held[d.Intn(len(held))]
		if d.Intn(4) == 0 {
			return aborted(h.Txn, h.Home)
		}
		return committed(h.Txn, h.Home, stamp.Max(h.At, d.stamp()))
	case d.Intn(8) == 0:
		return marked(d.stamp())
	case d.Intn(8) == 0:
		return aborted(d.txn(), uint32(d.Intn(3)))
	case d.Intn(8) == 0:
		return reserved(s.Ceiling() + uint64(d.Intn(4)))
	}
	r := prepared(d.txn(), uint32(d.Intn(3)), d.stamp())
	for _, key := range []string{"a", "b", "c"} {
		switch d.Intn(5) {
		case 0, 1:
			r.Writes = append(r.Writes, put(key, d.below(9)))
		case 2:
			r.Writes = append(r.Writes, deleted(key))
		case 3:
			r.Reads = append(r.Reads, api.Span{Lo: key, Hi: key + "\x00"})
		}
	}
	return r
}

func (d dice) txn() api.Txn { return txn(uint32(2+d.Intn(2)), uint32(1+d.Intn(4))) }

func (d dice) stamp() api.Stamp { return at(uint64(d.Intn(9)), uint32(d.Intn(2)), uint32(d.Intn(2))) }

// slot draws a slot's bytes: a log of that generation, of a shard of that node, and something behind it now and then.
func (d dice) slot(t *testing.T, generation uint64, node uint32) slot {
	t.Helper()
	s := state.New(node)
	made := slot{bytes: header(t, generation), generation: generation}
	made.ends = []int{len(made.bytes)}
	add := func(r api.Record) {
		made.records = append(made.records, r)
		made.bytes += bytesOf(t, r)
		made.ends = append(made.ends, len(made.bytes))
	}
	s.Apply(reserved(10))
	if generation > 1 {
		for range d.Intn(8) {
			s.Apply(d.record(s))
		}
		text := s.Image()
		if d.Intn(8) == 0 {
			text = d.text(30)
		}
		add(imaged(text))
	} else {
		add(reserved(10))
	}
	for range d.Intn(10) {
		r := d.record(s)
		if len(r.Reads)+len(r.Writes) == 0 && r.Kind == api.RecPrepare {
			continue
		}
		if s.Apply(r) == api.OK || d.Intn(60) == 0 {
			add(r)
		}
	}
	switch d.Intn(5) {
	case 0:
		made.bytes += d.text(30)
	case 1:
		torn := bytesOf(t, d.anyRecord())
		made.bytes += torn[:len(torn)-1]
	case 2:
		made.bytes += bytesOf(t, imaged("")) + bytesOf(t, reserved(99)) // no image stands there
	case 3:
		return made.cut(d.Intn(len(made.bytes) + 1))
	}
	return made
}

// shard draws what a shard shows: mostly what one could.
func (d dice) shard(t *testing.T, node uint32) api.Shown {
	t.Helper()
	if d.Intn(12) == 0 {
		node++ // another one's disk
	}
	var shown api.Shown
	turn := d.Intn(api.Slots)
	generation := uint64(1 + d.Intn(2))
	shown.Disk[turn] = d.slot(t, generation, node).bytes
	if d.Intn(3) == 0 {
		shown.Disk[1-turn] = d.slot(t, generation+1, node).bytes
	}
	shown.Written = [api.Slots]string{d.slot(t, 3, node).bytes, "x"}
	shown.Held = []api.Held{{Txn: d.txn(), At: at(9, 0, 0)}}
	shown.Entries = []api.Entry{{Txn: d.txn(), Outcome: api.Aborted}}
	return shown
}

// result draws any result: one that no run gives, mostly. What is not on the disks doesn't count.
func (d dice) result(t *testing.T) api.Result {
	t.Helper()
	var r api.Result
	for node := range d.Intn(5) {
		r.Shards = append(r.Shards, d.shard(t, uint32(node)))
	}
	r.Commits = []api.Entry{{Txn: d.txn(), Outcome: api.Committed}}
	return r
}

func wantSeen(t *testing.T, seen map[string]int, names ...string) {
	t.Helper()
	for _, name := range names {
		if seen[name] < 20 {
			t.Errorf("drawn too seldom: %s (%v)", name, seen)
		}
	}
}
