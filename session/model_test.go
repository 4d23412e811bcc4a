package session

import (
	"slices"
	"strings"

	"tidemark/api"
	"tidemark/msg"
	"tidemark/route"
	"tidemark/token"
)

// model is a session as the chapter tells it, by plain lists: what the transaction has done, what went out, what has counted.
type model struct {
	node     uint32
	config   api.Config
	reading  uint64
	last     api.Stamp
	txns     uint32
	requests uint32
	token    string

	open     bool
	txn      api.Txn
	start    api.Stamp
	readOnly bool
	past     []api.Op // the reads and writes of the open transaction that were answered OK, in their order

	waits bool
	op    api.Op
	sent  []api.Msg // what went out for what is waited for now
	came  []api.Msg // what has counted of its answers
	voted []api.Msg // the votes of a commit that waits for the home
}

func above(a, b api.Stamp) bool {
	if a.Wall != b.Wall {
		return a.Wall > b.Wall
	}
	if a.Logical != b.Logical {
		return a.Logical > b.Logical
	}
	return a.Node > b.Node
}

func in(key string, s api.Span) bool { return key >= s.Lo && (s.Hi == "" || key < s.Hi) }

func aKey(text string) bool { return len(text) >= 1 && len(text) <= maxKey }

func isRead(op api.Op) bool { return op.Kind == api.OpGet || op.Kind == api.OpScan }

func readSpan(op api.Op) api.Span {
	if op.Kind == api.OpGet {
		return point(op.Key)
	}
	return api.Span{Lo: op.Key, Hi: op.Hi}
}

// mayBeAsked clears the fields that the kind names, and looks whether anything is left.
func mayBeAsked(op api.Op) bool {
	rest, right := op, true
	switch op.Kind {
	case api.OpBegin:
		rest.ReadOnly, rest.AsOf, rest.Token = false, false, ""
		if op.AsOf {
			right = op.ReadOnly && op.Token != ""
		}
	case api.OpScan:
		rest.Key, rest.Hi, rest.Limit, rest.Back = "", "", 0, false
		right = op.Limit >= 0 && len(op.Key) <= maxBound && len(op.Hi) <= maxBound && (op.Hi == "" || op.Key < op.Hi)
	case api.OpGet, api.OpDelete:
		rest.Key = ""
		right = aKey(op.Key)
	case api.OpPut:
		rest.Key, rest.Value = "", ""
		right = aKey(op.Key) && len(op.Value) <= maxValue
	case api.OpCommit, api.OpAbort:
	default:
		return false
	}
	rest.Kind = 0
	return right && rest == api.Op{}
}

func (m *model) footprint() []api.Span {
	var list []api.Span
	for _, op := range m.past {
		if isRead(op) && !m.readOnly && !slices.Contains(list, readSpan(op)) {
			list = append(list, readSpan(op))
		}
	}
	return list
}

func (m *model) writes() []api.Write {
	var list []api.Write
	for _, op := range m.past {
		if isRead(op) {
			continue
		}
		list = slices.DeleteFunc(list, func(w api.Write) bool { return w.Key == op.Key })
		list = append(list, api.Write{Key: op.Key, Delete: op.Kind == api.OpDelete, Value: op.Value})
	}
	slices.SortFunc(list, func(a, b api.Write) int { return strings.Compare(a.Key, b.Key) })
	return list
}

func (m *model) answer(op api.Op, e api.Errno) []api.Answer {
	a := api.Answer{Client: m.node, Op: op, Status: e}
	if m.open {
		a.Txn, a.At = m.txn, m.start
	}
	if op.Kind == api.OpCommit {
		a.At = zero
	}
	return []api.Answer{a}
}

func (m *model) close() {
	m.open, m.txn, m.start, m.readOnly, m.past = false, nobody, zero, false, nil
	m.rest()
}

func (m *model) rest() {
	m.waits, m.op, m.sent, m.came, m.voted = false, api.Op{}, nil, nil, nil
}

func (m *model) kill() {
	m.close()
	m.token = ""
}

func (m *model) do(op api.Op) ([]api.Msg, []api.Answer) {
	switch {
	case m.waits:
		return nil, m.answer(op, api.ErrWait)
	case !mayBeAsked(op):
		return nil, m.answer(op, api.ErrArg)
	case op.Kind == api.OpBegin:
		e := m.begin(op)
		return nil, m.answer(op, e)
	case !m.open:
		return nil, m.answer(op, api.ErrNone)
	case isRead(op):
		return m.read(op)
	case op.Kind == api.OpAbort:
		a := m.answer(op, api.OK)
		m.close()
		return nil, a
	case op.Kind == api.OpCommit:
		return m.commit(op)
	}
	e := m.write(op)
	return nil, m.answer(op, e)
}

func (m *model) begin(op api.Op) api.Errno {
	if m.open {
		return api.ErrOpen
	}
	seen := zero
	if op.Token != "" {
		var e api.Errno
		if seen, e = token.Decode(op.Token); e != api.OK {
			return api.ErrToken
		}
	}
	if m.txns == topNumber || seen.Wall == topWall {
		return api.ErrExhausted
	}
	if above(seen, m.last) {
		m.last = seen
	}
	start := seen
	if !op.AsOf {
		if !m.tick() {
			return api.ErrExhausted
		}
		start = m.last
	}
	m.txns++
	m.open, m.txn, m.start, m.readOnly = true, api.Txn{Client: m.node, Seq: m.txns}, start, op.ReadOnly
	return api.OK
}

func (m *model) tick() bool {
	next := at(m.last.Wall, m.last.Logical+1, m.node)
	if m.reading > m.last.Wall {
		next = at(m.reading, 0, m.node)
	} else if m.last.Logical == topNumber {
		next = at(m.last.Wall+1, 0, m.node)
	}
	if next.Wall == topWall {
		return false
	}
	m.last = next
	return true
}

func (m *model) write(op api.Op) api.Errno {
	if m.readOnly {
		return api.ErrReadOnly
	}
	known := slices.ContainsFunc(m.past, func(p api.Op) bool { return !isRead(p) && p.Key == op.Key })
	if !known && len(m.writes()) == maxWrites {
		return api.ErrMany
	}
	m.past = append(m.past, op)
	return api.OK
}

func (m *model) read(op api.Op) ([]api.Msg, []api.Answer) {
	if f := m.footprint(); !m.readOnly && len(f) == maxReads && !slices.Contains(f, readSpan(op)) {
		return nil, m.answer(op, api.ErrMany)
	}
	if m.requests == topNumber {
		return nil, m.answer(op, api.ErrExhausted)
	}
	m.requests++
	m.waits, m.op = true, op
	for _, p := range route.Cut(m.config, readSpan(op)) {
		m.sent = append(m.sent, api.Msg{Kind: api.MsgRead, From: m.node, To: p.Shard, Op: m.requests, At: m.start, Reads: []api.Span{p.Span}})
	}
	return m.again(), nil
}

func (m *model) commit(op api.Op) ([]api.Msg, []api.Answer) {
	writes := m.writes()
	if len(writes) == 0 {
		return nil, m.committed(op, m.start)
	}
	m.waits, m.op = true, op
	home, _ := route.Home(m.config, writes)
	for _, p := range route.Shares(m.config, m.footprint(), writes) {
		m.sent = append(m.sent, api.Msg{Kind: api.MsgPrepare, From: m.node, To: p.Shard, Txn: m.txn, Home: home, At: m.start, Reads: p.Reads, Writes: p.Writes})
	}
	return m.again(), nil
}

func (m *model) committed(op api.Op, when api.Stamp) []api.Answer {
	a := m.answer(op, api.OK)
	m.token = token.Encode(when)
	a[0].At, a[0].Token = when, m.token
	m.close()
	return a
}

// again gives what is sent and not answered.
func (m *model) again() []api.Msg {
	var list []api.Msg
	for _, s := range m.sent {
		if !slices.ContainsFunc(m.came, func(c api.Msg) bool { return c.From == s.To }) {
			list = append(list, s)
		}
	}
	return list
}

func (m *model) deliver(x api.Msg) ([]api.Msg, []api.Answer) {
	if x.To != m.node || msg.Valid(x) != api.OK {
		return nil, nil
	}
	for _, s := range m.again() {
		if s.To != x.From {
			continue
		}
		switch {
		case s.Kind == api.MsgRead && x.Kind == api.MsgData && x.Op == s.Op && x.At == s.At:
			return m.data(x, s.Reads[0])
		case s.Kind == api.MsgPrepare && x.Kind == api.MsgVote && x.Txn == s.Txn && x.Home == s.Home:
			return m.vote(x)
		case s.Kind == api.MsgCommit && x.Kind == api.MsgDone && x.Txn == s.Txn && x.Home == s.Home:
			return m.done(x, s.At)
		}
	}
	return nil, nil
}

func (m *model) data(x api.Msg, part api.Span) ([]api.Msg, []api.Answer) {
	for _, p := range x.Pairs {
		if !in(p.Key, part) {
			return nil, nil
		}
	}
	op := m.op
	if x.Status != api.OK {
		m.rest()
		return nil, m.answer(op, x.Status)
	}
	m.came = append(m.came, x)
	if len(m.again()) > 0 {
		return nil, nil
	}
	found := m.found()
	m.rest()
	if len(found) > maxPairs {
		return nil, m.answer(op, api.ErrMany)
	}
	m.past = append(m.past, op)
	a := m.answer(op, api.OK)
	if op.Back {
		slices.Reverse(found)
	}
	if op.Limit > 0 {
		found = found[:min(op.Limit, len(found))]
	}
	a[0].Pairs = found
	return nil, a
}

// found gives all pairs that have come, with the writes laid over them, keys rising.
func (m *model) found() []api.Pair {
	values := map[string]string{}
	for _, c := range m.came {
		for _, p := range c.Pairs {
			values[p.Key] = p.Value
		}
	}
	for _, w := range m.writes() {
		if !in(w.Key, readSpan(m.op)) {
			continue
		}
		delete(values, w.Key)
		if !w.Delete {
			values[w.Key] = w.Value
		}
	}
	var list []api.Pair
	for key, value := range values {
		list = append(list, api.Pair{Key: key, Value: value})
	}
	slices.SortFunc(list, func(a, b api.Pair) int { return strings.Compare(a.Key, b.Key) })
	return list
}

func (m *model) tell(shards []api.Msg, but func(uint32) bool, x api.Msg, o api.Outcome, when api.Stamp) []api.Msg {
	var out []api.Msg
	for _, s := range shards {
		if !but(s.To) {
			out = append(out, api.Msg{Kind: api.MsgDecide, From: m.node, To: s.To, Txn: x.Txn, Home: x.Home, Outcome: o, At: when})
		}
	}
	return out
}

func (m *model) vote(x api.Msg) ([]api.Msg, []api.Answer) {
	if x.Status != api.OK {
		out := m.tell(m.sent, func(uint32) bool { return false }, x, api.Aborted, zero)
		a := m.answer(m.op, x.Status)
		m.close()
		return out, a
	}
	if x.At.Wall == topWall || !above(x.At, m.start) {
		return nil, nil
	}
	m.came = append(m.came, x)
	if len(m.again()) > 0 {
		return nil, nil
	}
	when := zero
	for _, c := range m.came {
		if above(c.At, when) {
			when = c.At
		}
	}
	m.voted = m.sent
	m.sent = []api.Msg{{Kind: api.MsgCommit, From: m.node, To: x.Home, Txn: x.Txn, Home: x.Home, At: when}}
	m.came = nil
	return m.again(), nil
}

func (m *model) done(x api.Msg, when api.Stamp) ([]api.Msg, []api.Answer) {
	if x.Outcome == api.Committed && x.At != when {
		return nil, nil
	}
	out := m.tell(m.voted, func(shard uint32) bool { return shard == x.Home }, x, x.Outcome, x.At)
	if x.Outcome == api.Aborted {
		a := m.answer(m.op, api.ErrAborted)
		m.close()
		return out, a
	}
	if above(when, m.last) {
		m.last = when
	}
	return out, m.committed(m.op, when)
}
