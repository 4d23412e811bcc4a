package state

import (
	"cmp"
	"slices"
	"strings"

	"tidemark/api"
)

// model says by plain lists, and by the chapter's words alone, what a state must be.
type model struct {
	node     uint32
	ceiling  uint64
	mark     api.Stamp
	held     []api.Held
	entries  []api.Entry
	versions []api.Version
}

func (m model) same(o model) bool {
	return m.node == o.node && m.ceiling == o.ceiling && m.mark == o.mark &&
		slices.EqualFunc(m.held, o.held, sameHeld) && slices.Equal(m.entries, o.entries) && slices.Equal(m.versions, o.versions)
}

// below tells the order of two stamps, field by field.
func below(a, b api.Stamp) bool {
	return slices.Compare([]uint64{a.Wall, uint64(a.Logical), uint64(a.Node)}, []uint64{b.Wall, uint64(b.Logical), uint64(b.Node)}) < 0
}

func lower(a, b api.Txn) bool { return a.Client < b.Client || a.Client == b.Client && a.Seq < b.Seq }

func in(key string, s api.Span) bool { return s.Lo <= key && (s.Hi == "" || key < s.Hi) }

// meet tells whether two transactions meet, with what they read and write.
func meet(a, b api.Held) bool {
	for _, w := range a.Writes {
		for _, v := range b.Writes {
			if w.Key == v.Key {
				return true
			}
		}
	}
	return writesInto(a, b) || writesInto(b, a)
}

func writesInto(a, b api.Held) bool {
	for _, w := range a.Writes {
		for _, s := range b.Reads {
			if in(w.Key, s) {
				return true
			}
		}
	}
	return false
}

// number gives a number's bytes.
func number(n uint64) string {
	if n < 128 {
		return string([]byte{byte(n)})
	}
	return string([]byte{byte(n%128) + 128}) + number(n/128)
}

func text(s string) string { return number(uint64(len(s))) + s }

func flag(b bool) string {
	if b {
		return "\x01"
	}
	return "\x00"
}

// packed gives a stamp's bytes.
func packed(s api.Stamp) string {
	var b []byte
	for _, field := range [][2]uint64{{s.Wall, 8}, {uint64(s.Logical), 4}, {uint64(s.Node), 4}} {
		for i := int(field[1]) - 1; i >= 0; i-- {
			b = append(b, byte(field[0]>>(8*i)))
		}
	}
	return string(b)
}

func transaction(txn api.Txn, home uint32) string {
	return number(uint64(txn.Client)) + number(uint64(txn.Seq)) + number(uint64(home))
}

// image lays the lists down as they stand, in their order, sound or not.
func (m model) image() string {
	b := number(uint64(m.node)) + number(m.ceiling) + packed(m.mark) + number(uint64(len(m.held)))
	for _, h := range m.held {
		b += heldBytes(h)
	}
	b += number(uint64(len(m.entries)))
	for _, e := range m.entries {
		b += transaction(e.Txn, e.Home) + string([]byte{byte(e.Outcome)}) + packed(e.At)
	}
	b += number(uint64(len(m.versions)))
	for _, v := range m.versions {
		b += text(v.Key) + packed(v.At) + flag(v.Delete) + text(v.Value)
	}
	return b
}

func heldBytes(h api.Held) string {
	b := transaction(h.Txn, h.Home) + packed(h.At) + number(uint64(len(h.Reads)))
	for _, s := range h.Reads {
		b += text(s.Lo) + text(s.Hi)
	}
	b += number(uint64(len(h.Writes)))
	for _, w := range h.Writes {
		b += text(w.Key) + flag(w.Delete) + text(w.Value)
	}
	return b
}

// sound says the chapter's word, and whether the lists rise besides.
func (m model) sound() bool {
	if m.mark.Wall == topWall {
		return false
	}
	for i, h := range m.held {
		if i > 0 && !lower(m.held[i-1].Txn, h.Txn) || !m.soundHeld(h) {
			return false
		}
		for _, o := range m.held[:i] {
			if meet(o, h) {
				return false
			}
		}
	}
	for i, e := range m.entries {
		if i > 0 && !lower(m.entries[i-1].Txn, e.Txn) || !m.soundEntry(e) {
			return false
		}
	}
	for i, v := range m.versions {
		if i > 0 && !follows(m.versions[i-1], v) || !m.soundVersion(v) {
			return false
		}
	}
	return true
}

func follows(a, b api.Version) bool { return a.Key < b.Key || a.Key == b.Key && below(a.At, b.At) }

func (m model) soundHeld(h api.Held) bool {
	if h.Txn.Seq == 0 || h.At.Wall == topWall || h.At.Wall >= m.ceiling || len(h.Reads)+len(h.Writes) == 0 || len(h.Reads) > maxList || len(h.Writes) > maxList {
		return false
	}
	for _, s := range h.Reads {
		if len(s.Lo) > maxBound || len(s.Hi) > maxBound || s.Hi != "" && s.Lo >= s.Hi {
			return false
		}
	}
	for i, w := range h.Writes {
		if !keyAndValue(w.Key, w.Value, w.Delete) || i > 0 && h.Writes[i-1].Key >= w.Key || m.overtaken(w.Key, h.At) {
			return false
		}
	}
	return true
}

func (m model) overtaken(key string, when api.Stamp) bool {
	return slices.ContainsFunc(m.versions, func(v api.Version) bool { return v.Key == key && !below(v.At, when) })
}

func keyAndValue(key, value string, deleted bool) bool {
	return key != "" && len(key) <= maxKey && len(value) <= maxValue && !(deleted && value != "")
}

func (m model) soundEntry(e api.Entry) bool {
	if e.Txn.Seq == 0 || m.holding(e.Txn) >= 0 {
		return false
	}
	return e.Outcome == api.Committed && e.At.Wall < m.ceiling && e.At.Wall != topWall || e.Outcome == api.Aborted && e.At == zero
}

func (m model) soundVersion(v api.Version) bool {
	return keyAndValue(v.Key, v.Value, v.Delete) && v.At.Wall < m.ceiling && v.At.Wall != topWall
}

func (m model) holding(txn api.Txn) int {
	return slices.IndexFunc(m.held, func(h api.Held) bool { return h.Txn == txn })
}

func (m model) decided(txn api.Txn) bool {
	return slices.ContainsFunc(m.entries, func(e api.Entry) bool { return e.Txn == txn })
}

// apply takes a valid record of another kind than RecImage.
func (m *model) apply(r api.Record) api.Errno {
	ok := false
	switch r.Kind {
	case api.RecReserve:
		if ok = r.Wall > m.ceiling; ok {
			m.ceiling = r.Wall
		}
	case api.RecPrepare:
		if ok = m.mayPrepare(r); ok {
			m.held = append(m.held, api.Held{Txn: r.Txn, Home: r.Home, At: r.At, Reads: r.Reads, Writes: r.Writes})
		}
	case api.RecDecide:
		if ok = m.mayDecide(r); ok {
			m.decide(r)
		}
	case api.RecMark:
		if ok = below(m.mark, r.At); ok {
			m.prune(r.At)
		}
	}
	if !ok {
		return api.ErrBroken
	}
	m.sort()
	return api.OK
}

func (m *model) mayPrepare(r api.Record) bool {
	if m.decided(r.Txn) || m.holding(r.Txn) >= 0 || r.At.Wall >= m.ceiling {
		return false
	}
	for _, e := range m.entries {
		if e.Outcome == api.Committed && !below(e.At, r.At) {
			return false
		}
	}
	for _, w := range r.Writes {
		if m.overtaken(w.Key, r.At) {
			return false
		}
	}
	return !m.meets(r.Reads, r.Writes)
}

func (m *model) meets(reads []api.Span, writes []api.Write) bool {
	return slices.ContainsFunc(m.held, func(h api.Held) bool { return meet(h, api.Held{Reads: reads, Writes: writes}) })
}

func (m *model) mayDecide(r api.Record) bool {
	if m.decided(r.Txn) || r.Outcome == api.Aborted {
		return !m.decided(r.Txn)
	}
	i := m.holding(r.Txn)
	return i >= 0 && m.held[i].Home == r.Home && !below(r.At, m.held[i].At) && r.At.Wall < m.ceiling
}

func (m *model) decide(r api.Record) {
	m.entries = append(m.entries, api.Entry{Txn: r.Txn, Home: r.Home, Outcome: r.Outcome, At: r.At})
	i := m.holding(r.Txn)
	if i < 0 {
		return
	}
	if r.Outcome == api.Committed {
		for _, w := range m.held[i].Writes {
			m.versions = append(m.versions, api.Version{Key: w.Key, At: r.At, Delete: w.Delete, Value: w.Value})
		}
	}
	m.held = slices.Delete(m.held, i, i+1)
}

// newest tells the newest version of a key at a stamp.
func (m *model) newest(key string, when api.Stamp) (api.Version, bool) {
	var best api.Version
	there := false
	for _, v := range m.versions {
		if v.Key == key && !below(when, v.At) && (!there || below(best.At, v.At)) {
			best, there = v, true
		}
	}
	return best, there
}

func (m *model) prune(when api.Stamp) {
	m.mark = when
	var left []api.Version
	for _, v := range m.versions {
		best, there := m.newest(v.Key, when)
		if below(when, v.At) || there && best == v && !v.Delete {
			left = append(left, v)
		}
	}
	m.versions = left
}

func (m *model) sort() {
	slices.SortFunc(m.held, func(a, b api.Held) int { return compareTxn(a.Txn, b.Txn) })
	slices.SortFunc(m.entries, func(a, b api.Entry) int { return compareTxn(a.Txn, b.Txn) })
	slices.SortFunc(m.versions, func(a, b api.Version) int {
		if a.Key == b.Key && a.At == b.At {
			return 0
		}
		if follows(a, b) {
			return -1
		}
		return 1
	})
}

func compareTxn(a, b api.Txn) int {
	return cmp.Compare(uint64(a.Client)<<32|uint64(a.Seq), uint64(b.Client)<<32|uint64(b.Seq))
}

func (m *model) read(asked api.Span, when api.Stamp) ([]api.Pair, api.Errno) {
	if below(when, m.mark) {
		return nil, api.ErrOld
	}
	var list []api.Pair
	for i, v := range m.versions {
		best, there := m.newest(v.Key, when)
		if in(v.Key, asked) && there && !best.Delete && (i == 0 || m.versions[i-1].Key != v.Key) {
			list = append(list, api.Pair{Key: v.Key, Value: best.Value})
		}
	}
	return list, api.OK
}

func (m *model) blocks(asked api.Span, when api.Stamp) []api.Txn {
	var list []api.Txn
	for _, h := range m.held {
		if !below(when, h.At) && slices.ContainsFunc(h.Writes, func(w api.Write) bool { return in(w.Key, asked) }) {
			list = append(list, h.Txn)
		}
	}
	return list
}

func (m *model) check(txn api.Txn, start api.Stamp, reads []api.Span, writes []api.Write) api.Errno {
	stale := func(v api.Version) bool {
		return below(start, v.At) && slices.ContainsFunc(reads, func(s api.Span) bool { return in(v.Key, s) })
	}
	for _, fault := range []struct {
		is bool
		e  api.Errno
	}{
		{m.decided(txn), api.ErrOutcome},
		{m.holding(txn) >= 0, api.ErrHeld},
		{start.Wall == topWall, api.ErrExhausted},
		{len(reads) > 0 && below(start, m.mark), api.ErrOld},
		{m.meets(reads, writes), api.ErrConflict},
		{slices.ContainsFunc(m.versions, stale), api.ErrStale},
	} {
		if fault.is {
			return fault.e
		}
	}
	return api.OK
}

// soundContent is a content with something of everything, at its limits.
func soundContent() model {
	long := strings.Repeat("\xff", maxKey)
	return model{
		node:    1,
		ceiling: 300,
		mark:    last,
		held: []api.Held{
			{Txn: id(2, 1), Home: 0, At: at(5, 0, 1), Reads: spans(span("r", "s"), span("r", "s"), span("", "\x00")), Writes: puts("a=1", "b")},
			{Txn: id(2, 300), Home: topNumber, At: at(299, topNumber, topNumber), Writes: puts("c=" + strings.Repeat("v", maxValue))},
			{Txn: id(topNumber, topNumber), Home: 1, At: zero, Reads: spans(span(strings.Repeat("y", maxBound), strings.Repeat("z", maxBound)), whole)[:1]},
		},
		entries: []api.Entry{
			{Txn: id(0, 1), Home: 1, Outcome: api.Committed, At: at(7, 0, 0)},
			{Txn: id(2, 2), Home: 0, Outcome: api.Aborted},
			{Txn: id(2, 301), Home: topNumber, Outcome: api.Committed, At: at(299, 1, 1)},
		},
		versions: []api.Version{
			version("a", at(4, 0, 0), "old"), version("a", at(5, 0, 0), "new"), tombstone("b", at(5, 0, 0)), version(long, zero, strings.Repeat("\x00", maxValue)), version(long, at(299, 0, 0), ""),
		},
	}
}
