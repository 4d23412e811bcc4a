package session

import (
	"fmt"
	"math/rand"
	"slices"
	"strings"
	"testing"

	"tidemark/api"
	"tidemark/msg"
	"tidemark/token"
)

// lifeKeys are more than a transaction may write.
var lifeKeys = []string{"\x00", "a", "a\x00", "b", "f", "m", "mm", "p", "\xff", "c", "d", "e", "g", "h", "i", "j", "k", "n", "o", "q"}

const someKeys = 9

// life is a session beside its model, with shards that are drawn, and a watch on what comes of it.
type life struct {
	t       *testing.T
	r       *rand.Rand
	s       *Session
	m       *model
	keys    []string  // few in most lives, so that writes and reads meet
	bounds  []string  // of scans
	now     uint64    // readings and stamps are drawn near it
	heard   []api.Msg // messages that were handed in, some of them for a second time
	watched watch
	counts  map[string]int
}

func newLife(t *testing.T, seed int64, counts map[string]int) *life {
	r := rand.New(rand.NewSource(seed))
	c := api.Config{Shards: 1 + r.Intn(6), Clients: 1 + r.Intn(6), Capacity: 256, Park: r.Intn(17), Window: r.Uint64()}
	for _, i := range r.Perm(someKeys)[:c.Shards-1] {
		c.Splits = append(c.Splits, lifeKeys[i])
	}
	slices.Sort(c.Splits)
	node := uint32(c.Shards + r.Intn(c.Clients))
	l := &life{t: t, r: r, s: fresh(t, node, c).s, m: &model{node: node, config: c}, keys: lifeKeys[:someKeys], now: 20, watched: newWatch(t), counts: counts}
	if r.Intn(4) == 0 {
		l.keys = lifeKeys
	}
	l.bounds = append([]string{"", "", "0", "aa", "n"}, l.keys...)
	if r.Intn(8) == 0 { // near the end of the two counts
		l.s.txns, l.m.txns = topNumber-3, topNumber-3
		l.s.requests, l.m.requests = topNumber-5, topNumber-5
	}
	return l
}

func (l *life) one(list ...string) string { return list[l.r.Intn(len(list))] }

// stamp draws one near now; sometimes one at an end.
func (l *life) stamp() api.Stamp {
	switch l.r.Intn(40) {
	case 0:
		return zero
	case 1:
		return at(topWall, uint32(l.r.Intn(3)), 0)
	}
	return at(l.now-10+uint64(l.r.Intn(20)), uint32(l.r.Intn(3)), uint32(l.r.Intn(9)))
}

func (l *life) drawBegin() api.Op {
	op := api.Op{Kind: api.OpBegin, ReadOnly: l.r.Intn(4) == 0}
	switch l.r.Intn(5) {
	case 0:
		op.Token = token.Encode(l.stamp())
	case 1:
		op.Token = l.s.Token()
	case 2:
		op.Token = l.one("", "", "x", token.Encode(zero)[1:])
	}
	op.AsOf = op.ReadOnly && op.Token != "" && l.r.Intn(2) == 0
	return op
}

func (l *life) drawOp() api.Op {
	op := api.Op{}
	switch n := l.r.Intn(20); {
	case n < 1 || !l.m.open && l.r.Intn(3) > 0:
		op = l.drawBegin()
	case n < 6:
		op = get(l.one(l.keys...))
	case n < 9:
		op = scan(l.one(l.bounds...), l.one(l.bounds...))
		op.Back, op.Limit = l.r.Intn(2) == 0, l.r.Intn(4)
	case n < 14:
		op = put(l.one(l.keys...), l.one("", "1", "2"))
	case n < 16:
		op = del(l.one(l.keys...))
	case n < 18 && (len(l.keys) == someKeys || l.r.Intn(8) == 0):
		op = commit
	case n < 19 && len(l.keys) == someKeys:
		op = abort
	default:
		op = put(l.one(l.keys...), "3")
	}
	if l.r.Intn(25) == 0 {
		_, more := filled()
		op = with(op, more[l.r.Intn(len(more))])
		op.Kind += api.OpKind(l.r.Intn(3) - 1)
	}
	return op
}

// reply draws what a shard may answer to what went out.
func (l *life) reply(asked api.Msg) api.Msg {
	m := api.Msg{From: asked.To, To: asked.From, Txn: asked.Txn, Home: asked.Home, Op: asked.Op}
	fails := l.r.Intn(8) == 0
	switch asked.Kind {
	case api.MsgRead:
		m.Kind, m.At = api.MsgData, asked.At
		if fails {
			m.Status = []api.Errno{api.ErrExhausted, api.ErrFull, api.ErrOld, api.ErrBusy, api.ErrMany}[l.r.Intn(5)]
			break
		}
		for _, key := range slices.Sorted(slices.Values(l.keys)) {
			if in(key, asked.Reads[0]) && l.r.Intn(2) == 0 {
				m.Pairs = append(m.Pairs, api.Pair{Key: key, Value: l.one("", "8", "9")})
			}
		}
	case api.MsgPrepare:
		m.Kind = api.MsgVote
		if fails {
			m.Status = []api.Errno{api.ErrExhausted, api.ErrFull, api.ErrOld, api.ErrConflict, api.ErrStale, api.ErrAborted}[l.r.Intn(6)]
			break
		}
		m.At = at(asked.At.Wall+uint64(l.r.Intn(3)), asked.At.Logical+uint32(l.r.Intn(3)), uint32(l.r.Intn(7)))
		if l.r.Intn(20) == 0 {
			m.At = l.stamp()
		}
	case api.MsgCommit:
		m.Kind, m.Outcome, m.At = api.MsgDone, api.Committed, asked.At
		if fails {
			m.Outcome, m.At = api.Aborted, zero
		}
	}
	return m
}

// drawMsg draws a message: an answer to what is not answered, one that is spoilt, one that was handed in before, or one about nothing.
func (l *life) drawMsg() api.Msg {
	waiting := l.m.again()
	if len(waiting) == 0 || l.r.Intn(6) == 0 {
		if len(l.heard) > 0 && l.r.Intn(3) > 0 {
			return l.heard[l.r.Intn(len(l.heard))]
		}
		all := everything()
		m := all[l.r.Intn(len(all))]
		m.To = l.s.node
		return m
	}
	m := l.reply(waiting[l.r.Intn(len(waiting))])
	if l.r.Intn(5) == 0 {
		list := append(changes(), when("a stamp", l.stamp()), found("pairs", l.one(l.keys...)+"=1"), status(api.ErrStale))
		list[l.r.Intn(len(list))].lay(&m)
	}
	return m
}

// wantAlike holds what a call brought to what the model says, and the session to the model.
func (l *life) wantAlike(what string, out, wantOut []api.Msg, answers, want []api.Answer) {
	l.t.Helper()
	if !slices.EqualFunc(out, wantOut, sameMsg) || !slices.EqualFunc(answers, want, sameAnswer) {
		l.t.Fatalf("%s brings %+v, %+v, want %+v, %+v", what, out, answers, wantOut, want)
	}
	op, waits := l.s.Waiting()
	txn, start, open := l.s.Open()
	if op != l.m.op || waits != l.m.waits || txn != l.m.txn || start != l.m.start || open != l.m.open || l.s.Token() != l.m.token {
		l.t.Fatalf("behind %s: %+v, %v waits; %v at %v, %v is open; the token is %q; want %+v", what, op, waits, txn, start, open, l.s.Token(), *l.m)
	}
	if l.s.clock.Last() != l.m.last || l.s.txns != l.m.txns || l.s.requests != l.m.requests {
		l.t.Fatalf("behind %s: the clock is at %v, the counts are %d and %d, want %+v", what, l.s.clock.Last(), l.s.txns, l.s.requests, *l.m)
	}
	for _, a := range answers {
		l.counts[fmt.Sprintf("kind %d, status %d", a.Op.Kind, a.Status)]++
		if strings.HasPrefix(what, "Do") && a.Status == api.ErrMany {
			l.counts[fmt.Sprintf("kind %d, too many at once", a.Op.Kind)]++
		}
	}
	for _, m := range out {
		l.counts[fmt.Sprintf("message %d, outcome %d", m.Kind, m.Outcome)]++
	}
	l.watched.sees(out, answers)
	l.watched.balance(waits)
}

func (l *life) do(op api.Op) {
	l.t.Helper()
	_, waited := l.s.Waiting()
	out, answers := l.s.Do(op)
	l.watched.isAsked(op, out, waited)
	wantOut, want := l.m.do(op)
	l.wantAlike(fmt.Sprintf("Do(%+v)", op), out, wantOut, answers, want)
}

func (l *life) deliver(m api.Msg) {
	l.t.Helper()
	l.heard = append(l.heard, m)
	l.watched.hears(m, l.s.node)
	out, answers := l.s.Deliver(m)
	wantOut, want := l.m.deliver(m)
	l.wantAlike(fmt.Sprintf("Deliver(%+v)", m), out, wantOut, answers, want)
}

func (l *life) tick() {
	l.t.Helper()
	out := l.s.Tick()
	l.wantAlike("Tick", out, l.m.again(), nil, nil)
}

func (l *life) kill() {
	l.t.Helper()
	_, waited := l.s.Waiting()
	l.s.Kill()
	l.m.kill()
	l.watched.isKilled(waited)
	l.wantAlike("Kill", nil, nil, nil, nil)
	l.counts["kill"]++
}

func (l *life) clock() {
	l.now += uint64(l.r.Intn(10))
	wall := l.now - uint64(l.r.Intn(15))
	if l.r.Intn(10) == 0 {
		wall = topWall
	}
	l.s.Clock(wall)
	l.m.reading = wall
	l.wantAlike("Clock", nil, nil, nil, nil)
}

func (l *life) step() {
	switch n := l.r.Intn(100); {
	case n < 8:
		l.clock()
	case n < 16:
		l.tick()
	case n < 17:
		l.kill()
	case l.m.waits && n < 80, n < 24:
		l.deliver(l.drawMsg())
	default:
		l.do(l.drawOp())
	}
}

// P16.2 to P16.17: drawn lives, held to the model and watched.
func TestLives(t *testing.T) {
	counts := map[string]int{}
	for seed := range int64(1500) {
		l := newLife(t, seed, counts)
		for range 250 {
			l.step()
		}
	}
	for _, status := range []string{
		"kind 1, status 0", "kind 1, status 160", "kind 1, status 40", "kind 1, status 11",
		"kind 2, status 0", "kind 2, status 161", "kind 2, status 142", "kind 2, status 11", "kind 2, status 140", "kind 2, status 1",
		"kind 3, status 0", "kind 3, status 161", "kind 3, status 142", "kind 3, status 11", "kind 3, status 90", "kind 3, status 1",
		"kind 4, status 0", "kind 4, status 161", "kind 4, status 163", "kind 4, status 162",
		"kind 5, status 0", "kind 5, status 161", "kind 5, status 163", "kind 5, status 162",
		"kind 6, status 0", "kind 6, status 161", "kind 6, status 164", "kind 6, status 100", "kind 6, status 141", "kind 6, status 60",
		"kind 7, status 0", "kind 7, status 161", "kind 7, status 162",
		"kind 2, too many at once", "kind 3, too many at once", "kind 4, too many at once", "kind 5, too many at once",
		"message 1, outcome 0", "message 3, outcome 0", "message 5, outcome 0", "message 7, outcome 1", "message 7, outcome 2", "kill",
	} {
		if counts[status] < 20 {
			t.Errorf("%s came %d times: the draw is too poor", status, counts[status])
		}
	}
}

// P16.18: whatever comes between, a transaction whose shards all answer OK is committed, at the greatest of the stamps that they vote.
func TestWhoIsAnsweredComesThrough(t *testing.T) {
	counts := map[string]int{}
	for seed := range int64(400) {
		l := newLife(t, seed, counts)
		for range 40 {
			l.step()
		}
		l.kill()
		l.s.Clock(0)
		l.m.reading = 0
		if l.s.txns >= topNumber-1 || l.s.requests >= topNumber-4 || l.s.clock.Last().Wall > 1000 {
			continue
		}
		l.do(begin)
		txn, start, open := l.s.Open()
		if !open {
			t.Fatal("no begin")
		}
		for range 3 {
			l.do(scan("", l.one("", "b", "m")))
			l.through(start)
			l.do(put(l.one(l.keys...), "1"))
		}
		before := len(l.watched.done)
		l.do(commit)
		greatest := l.through(start)
		if got, there := l.watched.done[txn]; !there || got != greatest || len(l.watched.done) != before+1 {
			t.Fatalf("seed %d: %v is answered at %v, %v, want %v", seed, txn, got, there, greatest)
		}
		counts["through"]++
	}
	if counts["through"] < 100 {
		t.Errorf("%d came through: the draw is too poor", counts["through"])
	}
}

// through has all shards answer OK what waits, with what else may come between, and gives the greatest stamp that was voted.
func (l *life) through(start api.Stamp) api.Stamp {
	greatest := zero
	for {
		waiting := l.m.again()
		if len(waiting) == 0 {
			return greatest
		}
		for range l.r.Intn(4) {
			l.noise(waiting)
		}
		asked := waiting[l.r.Intn(len(waiting))]
		m := api.Msg{From: asked.To, To: asked.From, Txn: asked.Txn, Home: asked.Home, Op: asked.Op, At: asked.At}
		switch asked.Kind {
		case api.MsgRead:
			m.Kind = api.MsgData
		case api.MsgPrepare:
			m.Kind, m.At = api.MsgVote, at(start.Wall+uint64(1+l.r.Intn(5)), uint32(l.r.Intn(3)), asked.To)
			if above(m.At, greatest) {
				greatest = m.At
			}
		case api.MsgCommit:
			m.Kind, m.Outcome = api.MsgDone, api.Committed
		}
		l.deliver(m)
	}
}

// noise is anything but the answer of a shard that is waited for.
func (l *life) noise(waiting []api.Msg) {
	switch l.r.Intn(4) {
	case 0:
		l.tick()
	case 1:
		l.do(l.drawOp())
	case 2:
		l.deliver(l.heard[l.r.Intn(len(l.heard))])
	default:
		m := l.reply(waiting[l.r.Intn(len(waiting))])
		list := changes()
		list[l.r.Intn(len(list))].lay(&m)
		if len(l.watched.wouldCount(m, waiting)) == 0 {
			l.deliver(m)
		}
	}
}

// watch looks at what a session is given and gives, and at nothing else.
type watch struct {
	t        *testing.T
	asked    int // operations
	answered int
	killed   int // operations that waited then
	requests map[uint32]int
	txns     map[api.Txn]*course
	last     api.Stamp             // the last start stamp that was issued
	done     map[api.Txn]api.Stamp // commits that were answered OK
}

// course is what was seen of one transaction.
type course struct {
	start    api.Stamp
	home     uint32
	prepared []uint32               // the participants
	votes    map[uint32][]api.Stamp // of votes with OK that were handed in
	commit   api.Stamp              // of the MsgCommit that went out
	dones    []api.Stamp            // of the home's words, Committed, that were handed in
	decided  []api.Msg
	answer   *api.Answer // of the commit
}

func newWatch(t *testing.T) watch {
	return watch{t: t, requests: map[uint32]int{}, txns: map[api.Txn]*course{}, done: map[api.Txn]api.Stamp{}}
}

// isAsked takes in an operation and what went out for it at once.
func (w *watch) isAsked(op api.Op, out []api.Msg, waited bool) {
	w.t.Helper()
	w.asked++
	if waited && len(out) > 0 {
		w.t.Fatalf("%+v sends %+v while another one waits", op, out)
	}
	for i, m := range out {
		if m.Kind == api.MsgRead && i == 0 {
			w.requests[m.Op]++
			if w.requests[m.Op] > 1 {
				w.t.Fatalf("two reads have the number %d", m.Op)
			}
		}
		if m.Kind == api.MsgPrepare {
			c := w.txns[m.Txn]
			c.home = m.Home
			c.prepared = append(c.prepared, m.To)
		}
	}
}

func (w *watch) isKilled(waited bool) {
	if waited {
		w.killed++
	}
}

// balance: each operation has one answer, or waits, or was killed (P16.16).
func (w *watch) balance(waits bool) {
	w.t.Helper()
	left := w.asked - w.answered - w.killed
	if waits && left != 1 || !waits && left != 0 {
		w.t.Fatalf("%d asked, %d answered, %d killed, and one waits: %v", w.asked, w.answered, w.killed, waits)
	}
}

// hears takes in a message that is handed to the session.
func (w *watch) hears(m api.Msg, node uint32) {
	c := w.txns[m.Txn]
	if c == nil || m.To != node || msg.Valid(m) != api.OK || m.Home != c.home {
		return
	}
	if m.Kind == api.MsgVote && m.Status == api.OK {
		c.votes[m.From] = append(c.votes[m.From], m.At)
	}
	if m.Kind == api.MsgDone && m.Outcome == api.Committed && m.From == c.home {
		c.dones = append(c.dones, m.At)
	}
}

// sees takes in what the session gives.
func (w *watch) sees(out []api.Msg, answers []api.Answer) {
	w.t.Helper()
	if !slices.IsSortedFunc(out, func(a, b api.Msg) int { return int(a.To) - int(b.To) }) {
		w.t.Fatalf("what goes out does not rise: %+v", out)
	}
	for _, a := range answers {
		w.answered++
		w.seesAnswer(a)
	}
	for _, m := range out {
		if msg.Valid(m) != api.OK {
			w.t.Fatalf("%+v is not valid", m)
		}
		switch m.Kind {
		case api.MsgCommit:
			w.seesCommit(m)
		case api.MsgDecide:
			w.seesDecide(m)
		}
	}
}

// seesAnswer: ids are unlike, start stamps rise, and a commit stands on the home's word (P16.15 to P16.17).
func (w *watch) seesAnswer(a api.Answer) {
	w.t.Helper()
	if a.Op.Kind == api.OpBegin && a.Status == api.OK {
		if w.txns[a.Txn] != nil {
			w.t.Fatalf("%v has begun twice", a.Txn)
		}
		w.txns[a.Txn] = &course{start: a.At, votes: map[uint32][]api.Stamp{}}
		w.begins(a)
	}
	if a.Op.Kind != api.OpCommit || a.Txn == nobody || a.Status == api.ErrWait || a.Status == api.ErrArg {
		return
	}
	c := w.txns[a.Txn]
	if c.answer != nil {
		w.t.Fatalf("the commit of %v is answered twice", a.Txn)
	}
	c.answer = &a
	if a.Status != api.OK {
		return
	}
	w.done[a.Txn] = a.At
	if a.Token != token.Encode(a.At) {
		w.t.Fatalf("the token of %v is %q", a.At, a.Token)
	}
	if len(c.prepared) > 0 && (a.At != c.commit || !slices.Contains(c.dones, a.At)) {
		w.t.Fatalf("%v is committed at %v: it asked for %v, and heard %v", a.Txn, a.At, c.commit, c.dones)
	}
}

// begins: P16.17.
func (w *watch) begins(a api.Answer) {
	w.t.Helper()
	seen, e := token.Decode(a.Op.Token)
	if a.Op.AsOf {
		if a.At != seen {
			w.t.Fatalf("as of %v begins at %v", seen, a.At)
		}
		return
	}
	if !above(a.At, w.last) || e == api.OK && !above(a.At, seen) {
		w.t.Fatalf("%v begins at %v, behind %v, with the token %v", a.Txn, a.At, w.last, seen)
	}
	for txn, when := range w.done {
		if !above(a.At, when) {
			w.t.Fatalf("%v begins at %v, not above %v of %v", a.Txn, a.At, when, txn)
		}
	}
	w.last = a.At
}

// seesCommit: all have voted, and it is for the home, at one of the stamps, above the start stamp (P16.15).
func (w *watch) seesCommit(m api.Msg) {
	w.t.Helper()
	c := w.txns[m.Txn]
	one := false
	for _, shard := range c.prepared {
		if len(c.votes[shard]) == 0 {
			w.t.Fatalf("%+v goes out, and %d has not voted", m, shard)
		}
		one = one || slices.Contains(c.votes[shard], m.At)
	}
	if m.To != c.home || !one || !above(m.At, c.start) || c.commit != zero && c.commit != m.At {
		w.t.Fatalf("%+v goes out for %+v", m, *c)
	}
	c.commit = m.At
}

// seesDecide: one outcome at one stamp, that of the answer, to each participant once (P16.15).
func (w *watch) seesDecide(m api.Msg) {
	w.t.Helper()
	c := w.txns[m.Txn]
	if c.answer == nil || !slices.Contains(c.prepared, m.To) || (m.Outcome == api.Committed) != (c.answer.Status == api.OK) || m.At != c.answer.At {
		w.t.Fatalf("%+v goes out for %+v, answered %+v", m, *c, c.answer)
	}
	for _, other := range c.decided {
		if other.To == m.To {
			w.t.Fatalf("%+v goes out twice", m)
		}
	}
	c.decided = append(c.decided, m)
}

// wouldCount gives those of the messages that wait to which a message might be the answer.
func (w *watch) wouldCount(m api.Msg, waiting []api.Msg) []api.Msg {
	var list []api.Msg
	for _, asked := range waiting {
		if msg.Valid(m) == api.OK && m.To == asked.From && m.From == asked.To && m.Txn == asked.Txn && m.Home == asked.Home && m.Op == asked.Op {
			list = append(list, asked)
		}
	}
	return list
}
