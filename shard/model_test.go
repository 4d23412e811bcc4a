package shard

import (
	"slices"

	"tidemark/api"
	"tidemark/state"
	"tidemark/wal"
)

// model is a shard as the chapter tells it, by plain lists and numbers. Nothing is ever pruned here: no question at or above the watermark can tell.
type model struct {
	node   uint32
	park   int
	window uint64

	records  []api.Record // all that were logged, from the first shard on this disk on
	ceiling  uint64
	mark     api.Stamp
	held     []api.Held
	entries  []api.Entry
	versions []api.Version

	reading     uint64
	last        api.Stamp
	end, synced int
	pending     bool
	room        int // bytes that are free on the disk
	parked      []api.Msg
	outbox      []numbered
}

type numbered struct {
	msg    api.Msg
	number int
}

// opened is the model of a shard that is opened on these records.
func opened(node uint32, c api.Config, records []api.Record) *model {
	m := &model{node: node, park: c.Park, window: c.Window, records: slices.Clip(records)}
	for _, r := range records {
		m.apply(r)
	}
	m.last = at(m.ceiling, 0, 0)
	return m
}

func above(a, b api.Stamp) bool {
	if a.Wall != b.Wall {
		return a.Wall > b.Wall
	}
	if a.Logical != b.Logical {
		return a.Logical > b.Logical
	}
	return a.Node > b.Node
}

func byTxn(a, b api.Txn) int {
	switch {
	case a == b:
		return 0
	case a.Client < b.Client || a.Client == b.Client && a.Seq < b.Seq:
		return -1
	}
	return 1
}

func in(key string, s api.Span) bool { return key >= s.Lo && (s.Hi == "" || key < s.Hi) }

func (m *model) apply(r api.Record) {
	switch r.Kind {
	case api.RecReserve:
		m.ceiling = r.Wall
	case api.RecPrepare:
		m.held = append(m.held, api.Held{Txn: r.Txn, Home: r.Home, At: r.At, Reads: r.Reads, Writes: r.Writes})
		slices.SortFunc(m.held, func(a, b api.Held) int { return byTxn(a.Txn, b.Txn) })
	case api.RecDecide:
		m.decide(r)
	case api.RecMark:
		m.mark = r.At
	}
}

func (m *model) decide(r api.Record) {
	m.entries = append(m.entries, api.Entry{Txn: r.Txn, Home: r.Home, Outcome: r.Outcome, At: r.At})
	slices.SortFunc(m.entries, func(a, b api.Entry) int { return byTxn(a.Txn, b.Txn) })
	h, there := m.holding(r.Txn)
	if !there {
		return
	}
	m.held = slices.DeleteFunc(m.held, func(h api.Held) bool { return h.Txn == r.Txn })
	if r.Outcome == api.Aborted {
		return
	}
	for _, w := range h.Writes {
		m.versions = append(m.versions, api.Version{Key: w.Key, At: r.At, Delete: w.Delete, Value: w.Value})
	}
}

func (m *model) holding(txn api.Txn) (api.Held, bool) {
	for _, h := range m.held {
		if h.Txn == txn {
			return h, true
		}
	}
	return api.Held{}, false
}

func (m *model) known(txn api.Txn) (api.Entry, bool) {
	for _, e := range m.entries {
		if e.Txn == txn {
			return e, true
		}
	}
	return api.Entry{}, false
}

func (m *model) log(r api.Record) bool {
	bytes, e := wal.Encode(r)
	if e != api.OK {
		panic("no valid record")
	}
	if len(bytes) > m.room {
		return false
	}
	m.room -= len(bytes)
	m.end++
	m.records = append(m.records, r)
	m.apply(r)
	return true
}

func (m *model) observe(s api.Stamp) {
	if above(s, m.last) {
		m.last = s
	}
}

func (m *model) reserve(s api.Stamp) bool {
	if s.Wall < m.ceiling {
		return true
	}
	ceiling := s.Wall + m.window + 1
	if m.window >= topWall-s.Wall {
		ceiling = topWall
	}
	return m.log(api.Record{Kind: api.RecReserve, Wall: ceiling})
}

func (m *model) tick() (api.Stamp, bool) {
	next := at(m.reading, 0, m.node)
	switch {
	case m.reading > m.last.Wall:
	case m.last.Wall == topWall:
		return zero, false
	case m.last.Logical < topNumber:
		next = at(m.last.Wall, m.last.Logical+1, m.node)
	default:
		next = at(m.last.Wall+1, 0, m.node)
	}
	if next.Wall == topWall {
		return zero, false
	}
	m.last = next
	return next, true
}

func (m *model) make(n api.Msg) {
	n.From = m.node
	m.outbox = append(m.outbox, numbered{n, m.end})
}

// out is what goes out at the end of a call.
func (m *model) out() []api.Msg {
	var list []api.Msg
	for len(m.outbox) > 0 && m.synced >= m.outbox[0].number {
		list = append(list, m.outbox[0].msg)
		m.outbox = m.outbox[1:]
	}
	return list
}

func (m *model) blocked(s api.Span, t api.Stamp) bool {
	for _, h := range m.held {
		for _, w := range h.Writes {
			if in(w.Key, s) && !above(h.At, t) {
				return true
			}
		}
	}
	return false
}

// pairs are those of a span at a stamp.
func (m *model) pairs(s api.Span, t api.Stamp) []api.Pair {
	newest := map[string]api.Version{}
	for _, v := range m.versions {
		if old, there := newest[v.Key]; in(v.Key, s) && !above(v.At, t) && (!there || above(v.At, old.At)) {
			newest[v.Key] = v
		}
	}
	var list []api.Pair
	for key, v := range newest {
		if !v.Delete {
			list = append(list, api.Pair{Key: key, Value: v.Value})
		}
	}
	slices.SortFunc(list, func(a, b api.Pair) int {
		if a.Key < b.Key {
			return -1
		}
		return 1
	})
	return list
}

func (m *model) answer(r api.Msg, e api.Errno, pairs ...api.Pair) {
	m.make(api.Msg{Kind: api.MsgData, To: r.From, Op: r.Op, At: r.At, Status: e, Pairs: pairs})
}

func (m *model) serve(r api.Msg) {
	list := m.pairs(r.Reads[0], r.At)
	if len(list) > maxPairs {
		m.answer(r, api.ErrMany)
		return
	}
	m.answer(r, api.OK, list...)
}

func (m *model) wake() {
	var stay []api.Msg
	for _, r := range m.parked {
		switch {
		case above(m.mark, r.At):
			m.answer(r, api.ErrOld)
		case m.blocked(r.Reads[0], r.At):
			stay = append(stay, r)
		default:
			m.serve(r)
		}
	}
	m.parked = stay
}

// abort and commitIt lay the message, if there is one, ahead of what they wake.

func (m *model) abort(txn api.Txn, home uint32, message ...api.Msg) {
	if !m.log(api.Record{Kind: api.RecDecide, Txn: txn, Home: home, Outcome: api.Aborted}) {
		return
	}
	for _, n := range message {
		m.make(n)
	}
	m.wake()
}

func (m *model) commitIt(txn api.Txn, home uint32, c api.Stamp, message ...api.Msg) {
	m.observe(c)
	if !m.reserve(c) || !m.log(api.Record{Kind: api.RecDecide, Txn: txn, Home: home, Outcome: api.Committed, At: c}) {
		return
	}
	for _, n := range message {
		m.make(n)
	}
	m.wake()
}

func (m *model) deliver(n api.Msg, valid bool) []api.Msg {
	if n.To != m.node || !valid {
		return nil
	}
	switch n.Kind {
	case api.MsgRead:
		m.read(n)
	case api.MsgPrepare:
		status, p, silent := m.prepare(n)
		if !silent {
			m.make(api.Msg{Kind: api.MsgVote, To: n.From, Txn: n.Txn, Home: n.Home, Status: status, At: p})
		}
	case api.MsgCommit:
		m.commit(n)
	case api.MsgDecide, api.MsgTell:
		m.learn(n)
	case api.MsgQuery:
		m.query(n)
	default:
		return nil
	}
	return m.out()
}

func (m *model) read(n api.Msg) {
	if n.At.Wall == topWall {
		m.answer(n, api.ErrExhausted)
		return
	}
	if above(m.mark, n.At) {
		m.answer(n, api.ErrOld)
		return
	}
	m.observe(n.At)
	if !m.reserve(n.At) {
		m.answer(n, api.ErrFull)
		return
	}
	if !m.blocked(n.Reads[0], n.At) {
		m.serve(n)
		return
	}
	for _, r := range m.parked {
		if r.From == n.From && r.Op == n.Op {
			return
		}
	}
	if len(m.parked) == m.park {
		m.answer(n, api.ErrBusy)
		return
	}
	m.parked = append(m.parked, copied(n))
}

// check is why a transaction that is neither held nor decided may not prepare.
func (m *model) check(n api.Msg) api.Errno {
	if n.At.Wall == topWall {
		return api.ErrExhausted
	}
	if len(n.Reads) > 0 && above(m.mark, n.At) {
		return api.ErrOld
	}
	for _, h := range m.held {
		if meet(h, n) {
			return api.ErrConflict
		}
	}
	for _, s := range n.Reads {
		for _, v := range m.versions {
			if in(v.Key, s) && above(v.At, n.At) {
				return api.ErrStale
			}
		}
	}
	return api.OK
}

func meet(h api.Held, n api.Msg) bool {
	touches := func(w api.Write, reads []api.Span, writes []api.Write) bool {
		return slices.ContainsFunc(writes, func(x api.Write) bool { return x.Key == w.Key }) ||
			slices.ContainsFunc(reads, func(s api.Span) bool { return in(w.Key, s) })
	}
	return slices.ContainsFunc(h.Writes, func(w api.Write) bool { return touches(w, n.Reads, n.Writes) }) ||
		slices.ContainsFunc(n.Writes, func(w api.Write) bool { return touches(w, h.Reads, h.Writes) })
}

// prepare tells the vote's status and stamp, or that there is none.
func (m *model) prepare(n api.Msg) (status api.Errno, p api.Stamp, silent bool) {
	if e, there := m.known(n.Txn); there {
		return api.ErrAborted, zero, e.Outcome == api.Committed
	}
	if h, there := m.holding(n.Txn); there {
		return api.OK, h.At, h.Home != n.Home
	}
	if e := m.check(n); e != api.OK {
		return e, zero, false
	}
	m.observe(n.At)
	p, ok := m.tick()
	if !ok {
		return api.ErrExhausted, zero, false
	}
	n = copied(n)
	if !m.reserve(p) || !m.log(api.Record{Kind: api.RecPrepare, Txn: n.Txn, Home: n.Home, At: p, Reads: n.Reads, Writes: n.Writes}) {
		return api.ErrFull, zero, false
	}
	return api.OK, p, false
}

func (m *model) commit(n api.Msg) {
	if n.Home != m.node {
		return
	}
	done := api.Msg{Kind: api.MsgDone, To: n.From, Txn: n.Txn, Home: n.Home}
	if e, there := m.known(n.Txn); there {
		done.Outcome, done.At = e.Outcome, e.At
		m.make(done)
		return
	}
	h, there := m.holding(n.Txn)
	if !there || h.Home != m.node || above(h.At, n.At) || n.At.Wall == topWall {
		return
	}
	done.Outcome, done.At = api.Committed, n.At
	m.commitIt(n.Txn, m.node, n.At, done)
}

func (m *model) learn(n api.Msg) {
	if _, there := m.known(n.Txn); there {
		return
	}
	h, there := m.holding(n.Txn)
	if there && h.Home != n.Home {
		return
	}
	if n.Outcome == api.Aborted {
		m.abort(n.Txn, n.Home)
		return
	}
	if !there || n.Home == m.node || above(h.At, n.At) || n.At.Wall == topWall {
		return
	}
	m.commitIt(n.Txn, n.Home, n.At)
}

func (m *model) query(n api.Msg) {
	if n.Home != m.node {
		return
	}
	tell := api.Msg{Kind: api.MsgTell, To: n.From, Txn: n.Txn, Home: n.Home}
	if e, there := m.known(n.Txn); there {
		tell.Outcome, tell.At = e.Outcome, e.At
		m.make(tell)
		return
	}
	if h, there := m.holding(n.Txn); there && h.Home != m.node {
		return
	}
	tell.Outcome = api.Aborted
	m.abort(n.Txn, m.node, tell)
}

func (m *model) timer() []api.Msg {
	for _, h := range slices.Clone(m.held) {
		if h.Home == m.node {
			m.abort(h.Txn, m.node)
			continue
		}
		m.make(api.Msg{Kind: api.MsgQuery, To: h.Home, Txn: h.Txn, Home: h.Home})
	}
	return m.out()
}

func (m *model) sync() []api.Msg {
	m.synced, m.pending = m.end, false
	return m.out()
}

func (m *model) markAt(w api.Stamp) api.Errno {
	if w.Wall == topWall {
		return api.ErrExhausted
	}
	if !above(w, m.mark) {
		return api.ErrOld
	}
	if !m.log(api.Record{Kind: api.RecMark, At: w}) {
		return api.ErrFull
	}
	m.wake()
	return api.OK
}

// checkpoint takes the image's bytes from layer 13, and their place in a log from layer 7.
func (m *model) checkpoint(headerSize int) api.Errno {
	if m.pending {
		return api.ErrPending
	}
	s, e := state.Replay(m.node, m.records)
	if e != api.OK {
		panic("the records don't follow")
	}
	bytes, e := wal.Encode(api.Record{Kind: api.RecImage, Image: s.Image()})
	if e != api.OK {
		return e
	}
	if headerSize+len(bytes) > m.room {
		return api.ErrFull
	}
	m.pending = true
	return api.OK
}

// copied is a message that shares no list.
func copied(n api.Msg) api.Msg {
	n.Reads, n.Writes, n.Pairs = slices.Clone(n.Reads), slices.Clone(n.Writes), slices.Clone(n.Pairs)
	return n
}
