package session

import (
	"fmt"
	"slices"
	"strings"
	"testing"

	"tidemark/api"
	"tidemark/msg"
	"tidemark/token"
)

// Limits of DOC.md, told apart from api's constants.
const (
	topWall   = 1<<64 - 1
	topNumber = 1<<32 - 1
	maxKey    = 32
	maxBound  = 33
	maxValue  = 64
	maxPairs  = 512
	maxReads  = 16
	maxWrites = 16
)

var (
	zero   = api.Stamp{}
	nobody = api.Txn{}
	t1     = api.Txn{Client: 2, Seq: 1}
	t2     = api.Txn{Client: 2, Seq: 2}
	t3     = api.Txn{Client: 2, Seq: 3}
	s1     = at(0, 1, 2) // the start stamp of the first transaction of a session that has no reading

	begin    = api.Op{Kind: api.OpBegin}
	readOnly = api.Op{Kind: api.OpBegin, ReadOnly: true}
	commit   = api.Op{Kind: api.OpCommit}
	abort    = api.Op{Kind: api.OpAbort}
)

func at(wall uint64, logical, node uint32) api.Stamp {
	return api.Stamp{Wall: wall, Logical: logical, Node: node}
}

// config is that of the chapter's examples.
func config() api.Config {
	return api.Config{Shards: 2, Clients: 2, Splits: []string{"m"}, Capacity: 65536, Park: 4, Window: 10}
}

// three has the shards 0 below g, 1 below p, 2, and the clients 3 and 4.
func three() api.Config {
	return api.Config{Shards: 3, Clients: 2, Splits: []string{"g", "p"}, Capacity: 4096, Window: 100}
}

// Operations.

func beginWith(seen api.Stamp) api.Op {
	return api.Op{Kind: api.OpBegin, Token: token.Encode(seen)}
}

func beginAsOf(seen api.Stamp) api.Op {
	return api.Op{Kind: api.OpBegin, ReadOnly: true, AsOf: true, Token: token.Encode(seen)}
}

func get(key string) api.Op { return api.Op{Kind: api.OpGet, Key: key} }

func scan(lo, hi string) api.Op { return api.Op{Kind: api.OpScan, Key: lo, Hi: hi} }

func put(key, value string) api.Op { return api.Op{Kind: api.OpPut, Key: key, Value: value} }

func del(key string) api.Op { return api.Op{Kind: api.OpDelete, Key: key} }

// Messages out; the test that asks for them lays From upon them.

func point(key string) api.Span { return api.Span{Lo: key, Hi: key + "\x00"} }

func readOf(to, op uint32, when api.Stamp, lo, hi string) api.Msg {
	return api.Msg{Kind: api.MsgRead, To: to, Op: op, At: when, Reads: []api.Span{{Lo: lo, Hi: hi}}}
}

func prepareOf(to uint32, txn api.Txn, home uint32, when api.Stamp, reads []api.Span, writes ...api.Write) api.Msg {
	return api.Msg{Kind: api.MsgPrepare, To: to, Txn: txn, Home: home, At: when, Reads: reads, Writes: writes}
}

func commitOf(txn api.Txn, home uint32, when api.Stamp) api.Msg {
	return api.Msg{Kind: api.MsgCommit, To: home, Txn: txn, Home: home, At: when}
}

func decideOf(to uint32, txn api.Txn, home uint32, o api.Outcome, when api.Stamp) api.Msg {
	return api.Msg{Kind: api.MsgDecide, To: to, Txn: txn, Home: home, Outcome: o, At: when}
}

// Messages in; the test that hands them in lays To upon them.

// pairs makes pairs of texts like a=1.
func pairs(texts ...string) []api.Pair {
	var list []api.Pair
	for _, text := range texts {
		key, value, _ := strings.Cut(text, "=")
		list = append(list, api.Pair{Key: key, Value: value})
	}
	return list
}

func dataOf(from, op uint32, when api.Stamp, texts ...string) api.Msg {
	return api.Msg{Kind: api.MsgData, From: from, Op: op, At: when, Pairs: pairs(texts...)}
}

func noData(from, op uint32, when api.Stamp, e api.Errno) api.Msg {
	return api.Msg{Kind: api.MsgData, From: from, Op: op, At: when, Status: e}
}

func yes(from uint32, txn api.Txn, home uint32, when api.Stamp) api.Msg {
	return api.Msg{Kind: api.MsgVote, From: from, Txn: txn, Home: home, At: when}
}

func no(from uint32, txn api.Txn, home uint32, e api.Errno) api.Msg {
	return api.Msg{Kind: api.MsgVote, From: from, Txn: txn, Home: home, Status: e}
}

func doneOf(txn api.Txn, home uint32, when api.Stamp) api.Msg {
	return api.Msg{Kind: api.MsgDone, From: home, Txn: txn, Home: home, Outcome: api.Committed, At: when}
}

func notDone(txn api.Txn, home uint32) api.Msg {
	return api.Msg{Kind: api.MsgDone, From: home, Txn: txn, Home: home, Outcome: api.Aborted}
}

func sameMsg(a, b api.Msg) bool {
	return a.Kind == b.Kind && a.From == b.From && a.To == b.To && a.Txn == b.Txn && a.Home == b.Home &&
		a.Op == b.Op && a.At == b.At && a.Status == b.Status && a.Outcome == b.Outcome &&
		slices.Equal(a.Reads, b.Reads) && slices.Equal(a.Writes, b.Writes) && slices.Equal(a.Pairs, b.Pairs)
}

func sameAnswer(a, b api.Answer) bool {
	return a.Client == b.Client && a.Txn == b.Txn && a.Op == b.Op && a.Status == b.Status &&
		a.At == b.At && a.Token == b.Token && slices.Equal(a.Pairs, b.Pairs)
}

// picture tells all that a session keeps.
func picture(s *Session) string {
	text := fmt.Sprintf("%d %+v %+v %d %d %+v %q", s.node, s.config, s.clock, s.txns, s.requests, s.errand, s.token)
	if s.open != nil {
		text += fmt.Sprintf(" %+v", *s.open)
	}
	return text
}

// client is a session under test.
type client struct {
	t *testing.T
	s *Session
}

func fresh(t *testing.T, node uint32, c api.Config) client {
	t.Helper()
	s := New(node, c)
	if s == nil {
		t.Fatalf("New(%d, %+v) is nil", node, c)
	}
	return client{t, s}
}

// begun is the session of client 2 with its first transaction open.
func begun(t *testing.T) client {
	t.Helper()
	c := fresh(t, 2, config())
	c.now(begin, api.OK, t1, s1)
	return c
}

// wantOut holds what went out to what should have, and to P16.16.
func (c client) wantOut(what string, out []api.Msg, want ...api.Msg) {
	c.t.Helper()
	for i := range want {
		want[i].From = c.s.node
	}
	if !slices.EqualFunc(out, want, sameMsg) {
		c.t.Errorf("%s: out go %+v, want %+v", what, out, want)
	}
	for _, m := range out {
		if msg.Valid(m) != api.OK {
			c.t.Errorf("%s: %+v is not valid", what, m)
		}
	}
}

// now asks an operation that is answered at once.
func (c client) now(op api.Op, e api.Errno, txn api.Txn, when api.Stamp) {
	c.t.Helper()
	want := api.Answer{Client: c.s.node, Txn: txn, Op: op, Status: e, At: when}
	if op.Kind == api.OpCommit && e == api.OK {
		want.Token = token.Encode(when)
	}
	before := picture(c.s)
	out, answers := c.s.Do(op)
	c.wantOut(fmt.Sprintf("Do(%+v)", op), out)
	if len(answers) != 1 || !sameAnswer(answers[0], want) {
		c.t.Errorf("Do(%+v) is answered %+v, want %+v", op, answers, want)
	}
	if e != api.OK && e != api.ErrExhausted && picture(c.s) != before {
		c.t.Errorf("Do(%+v) is refused and changes\n%s into\n%s", op, before, picture(c.s))
	}
}

// refused asks an operation of which nothing but an error may come.
func (c client) refused(op api.Op, e api.Errno) {
	c.t.Helper()
	txn, start, _ := c.s.Open()
	if op.Kind == api.OpCommit {
		start = zero
	}
	before := picture(c.s)
	c.now(op, e, txn, start)
	if picture(c.s) != before {
		c.t.Errorf("Do(%+v) is refused and changes\n%s into\n%s", op, before, picture(c.s))
	}
}

// later asks an operation that waits.
func (c client) later(op api.Op, want ...api.Msg) {
	c.t.Helper()
	out, answers := c.s.Do(op)
	if len(answers) != 0 {
		c.t.Errorf("Do(%+v) is answered %+v", op, answers)
	}
	c.wantOut(fmt.Sprintf("Do(%+v)", op), out, want...)
	c.wantWaiting(op)
}

// takes hands a message in that is not the last one.
func (c client) takes(m api.Msg, want ...api.Msg) {
	c.t.Helper()
	m.To = c.s.node
	out, answers := c.s.Deliver(m)
	if len(answers) != 0 {
		c.t.Errorf("Deliver(%+v) is answered %+v", m, answers)
	}
	c.wantOut(fmt.Sprintf("Deliver(%+v)", m), out, want...)
}

// passes hands a message in that does not count.
func (c client) passes(m api.Msg) {
	c.t.Helper()
	m.To = c.s.node
	c.passesAsItIs(m)
}

func (c client) passesAsItIs(m api.Msg) {
	c.t.Helper()
	before := picture(c.s)
	out, answers := c.s.Deliver(m)
	if len(out) != 0 || len(answers) != 0 || picture(c.s) != before {
		c.t.Errorf("Deliver(%+v) brings %+v, %+v, and changes\n%s into\n%s", m, out, answers, before, picture(c.s))
	}
}

// ends hands a message in that brings the answer of the operation that waits.
func (c client) ends(m api.Msg, want api.Answer, out ...api.Msg) {
	c.t.Helper()
	m.To = c.s.node
	want.Client = c.s.node
	want.Op, _ = c.s.Waiting()
	want.Txn, _, _ = c.s.Open()
	sent, answers := c.s.Deliver(m)
	if len(answers) != 1 || !sameAnswer(answers[0], want) {
		c.t.Errorf("Deliver(%+v) is answered %+v, want %+v", m, answers, want)
	}
	c.wantOut(fmt.Sprintf("Deliver(%+v)", m), sent, out...)
	if op, waits := c.s.Waiting(); waits || op != (api.Op{}) {
		c.t.Errorf("behind Deliver(%+v) %+v waits still", m, op)
	}
}

// gives hands in the last part of a read.
func (c client) gives(m api.Msg, want ...api.Pair) {
	c.t.Helper()
	c.ends(m, api.Answer{At: m.At, Pairs: want})
}

func (c client) wantWaiting(op api.Op) {
	c.t.Helper()
	if got, waits := c.s.Waiting(); !waits || got != op {
		c.t.Errorf("%+v, %v waits, want %+v", got, waits, op)
	}
}

func (c client) wantOpen(txn api.Txn, start api.Stamp) {
	c.t.Helper()
	if id, when, open := c.s.Open(); id != txn || when != start || !open {
		c.t.Errorf("open is %v at %v, %v, want %v at %v", id, when, open, txn, start)
	}
}

func (c client) wantClosed() {
	c.t.Helper()
	if id, when, open := c.s.Open(); open || id != nobody || when != zero {
		c.t.Errorf("open is %v at %v, %v, want none", id, when, open)
	}
}

func (c client) wantToken(want string) {
	c.t.Helper()
	if got := c.s.Token(); got != want {
		c.t.Errorf("the last token is %q, want %q", got, want)
	}
}

func (c client) wantTick(want ...api.Msg) {
	c.t.Helper()
	before := picture(c.s)
	c.wantOut("Tick", c.s.Tick(), want...)
	if picture(c.s) != before {
		c.t.Errorf("Tick changes\n%s into\n%s", before, picture(c.s))
	}
}

// P16.1: who is a client, of all numbers of shards and clients.
func TestNewOfEveryNode(t *testing.T) {
	splits := []string{"b", "d", "f", "h", "j"}
	for shards := 1; shards <= 6; shards++ {
		for clients := 1; clients <= 6; clients++ {
			c := api.Config{Shards: shards, Clients: clients, Splits: splits[:shards-1], Capacity: 256}
			for _, node := range []uint32{0, 1, 2, 3, 4, 5, 6, 7, 8, 9, 10, 11, 12, 13, topNumber - 1, topNumber} {
				want := int64(node) >= int64(shards) && int64(node) < int64(shards+clients)
				if got := New(node, c); (got != nil) != want {
					t.Errorf("New(%d) of %d shards and %d clients: %v", node, shards, clients, got)
				}
			}
		}
	}
}

// P16.1: a configuration that is not valid.
func TestNewOfNoConfiguration(t *testing.T) {
	for _, spoil := range []func(*api.Config){
		func(c *api.Config) { *c = api.Config{} },
		func(c *api.Config) { c.Shards = 0 },
		func(c *api.Config) { c.Shards = 3 },
		func(c *api.Config) { c.Shards = -1 },
		func(c *api.Config) { c.Clients = 0 },
		func(c *api.Config) { c.Clients = 7 },
		func(c *api.Config) { c.Clients = 1 << 32 },
		func(c *api.Config) { c.Splits = nil },
		func(c *api.Config) { c.Splits = []string{""} },
		func(c *api.Config) { c.Splits = []string{"m", "n"} },
		func(c *api.Config) { c.Capacity = 255 },
		func(c *api.Config) { c.Park = 17 },
	} {
		c := config()
		spoil(&c)
		if New(2, c) != nil {
			t.Errorf("New(2, %+v) is a session", c)
		}
	}
}

// P16.1, P16.14: a session that has done nothing yet.
func TestNewHasDoneNothing(t *testing.T) {
	c := fresh(t, 3, config())
	c.wantClosed()
	c.wantToken("")
	c.wantTick()
	if op, waits := c.s.Waiting(); waits || op != (api.Op{}) {
		t.Errorf("%+v waits", op)
	}
	c.now(begin, api.OK, api.Txn{Client: 3, Seq: 1}, at(0, 1, 3))
}

// P16.1: a reading is for the clock, and changes nothing else.
func TestClock(t *testing.T) {
	c := begun(t)
	c.now(put("a", "1"), api.OK, t1, s1)
	c.s.Clock(100)
	c.wantOpen(t1, s1)
	c.wantTick()
	c.now(abort, api.OK, t1, s1)
	c.now(begin, api.OK, t2, at(100, 0, 2))
	c.now(abort, api.OK, t2, at(100, 0, 2))
	c.s.Clock(50) // a physical clock may jump back
	c.now(begin, api.OK, t3, at(100, 1, 2))
	c.wantToken("")
}

// The chapter's table.
func TestExamples(t *testing.T) {
	c := fresh(t, 2, config())
	c.now(get("a"), api.ErrNone, nobody, zero)
	c.now(begin, api.OK, t1, s1)
	c.now(begin, api.ErrOpen, t1, s1)
	c.now(put("n", "1"), api.OK, t1, s1)
	c.now(put("a", "2"), api.OK, t1, s1)
	c.now(del("n"), api.OK, t1, s1)
	c.later(scan("", ""), readOf(0, 1, s1, "", "m"), readOf(1, 1, s1, "m", ""))
	c.now(get("a"), api.ErrWait, t1, s1)
	c.takes(dataOf(1, 1, s1, "n=5", "p=6"))
	c.passes(dataOf(1, 1, s1, "n=5", "p=6"))
	c.wantTick(readOf(0, 1, s1, "", "m"))
	c.gives(dataOf(0, 1, s1), pairs("a=2", "p=6")...)
	c.later(commit,
		prepareOf(0, t1, 0, s1, []api.Span{{Lo: "", Hi: "m"}}, api.Write{Key: "a", Value: "2"}),
		prepareOf(1, t1, 0, s1, []api.Span{{Lo: "m", Hi: ""}}, api.Write{Key: "n", Delete: true}))
	c.takes(yes(1, t1, 0, at(7, 0, 1)))
	c.takes(yes(0, t1, 0, at(3, 0, 0)), commitOf(t1, 0, at(7, 0, 1)))
	seen := token.Encode(at(7, 0, 1))
	c.ends(doneOf(t1, 0, at(7, 0, 1)), api.Answer{At: at(7, 0, 1), Token: seen}, decideOf(1, t1, 0, api.Committed, at(7, 0, 1)))
	c.wantToken(seen)
	c.now(api.Op{Kind: api.OpBegin, Token: seen}, api.OK, t2, at(7, 1, 2))
	c.now(put("a", "3"), api.OK, t2, at(7, 1, 2))
	c.later(commit, prepareOf(0, t2, 0, at(7, 1, 2), nil, api.Write{Key: "a", Value: "3"}))
	c.ends(no(0, t2, 0, api.ErrConflict), api.Answer{Status: api.ErrConflict}, decideOf(0, t2, 0, api.Aborted, zero))
	c.now(beginAsOf(at(3, 0, 0)), api.OK, t3, at(3, 0, 0))
	c.now(put("a", "1"), api.ErrReadOnly, t3, at(3, 0, 0))
	c.now(commit, api.OK, t3, at(3, 0, 0))
}

// anyOperations are of every kind, valid and not.
func anyOperations() []api.Op {
	return []api.Op{begin, readOnly, beginWith(at(9, 0, 0)), beginAsOf(at(9, 0, 0)), {Kind: api.OpBegin, Token: "x"}, get("a"), get(""),
		scan("", ""), scan("b", "a"), put("a", "9"), put("", ""), del("a"), commit, abort, {Kind: api.OpCommit, Key: "a"}, {Kind: api.OpAbort, Key: "a"}, {}, {Kind: 8}}
}

// P16.2: while an operation waits all others are refused, whatever they are.
func TestWhileOneWaits(t *testing.T) {
	c := begun(t)
	refuseAll := func() {
		t.Helper()
		for _, op := range anyOperations() {
			c.refused(op, api.ErrWait)
		}
	}
	c.now(put("a", "1"), api.OK, t1, s1)
	c.later(get("z"), readOf(1, 1, s1, "z", "z\x00"))
	refuseAll()
	c.wantWaiting(get("z"))
	c.gives(dataOf(1, 1, s1))
	c.later(commit, prepareOf(0, t1, 0, s1, nil, api.Write{Key: "a", Value: "1"}), prepareOf(1, t1, 0, s1, []api.Span{point("z")}))
	refuseAll()
	c.takes(yes(0, t1, 0, at(5, 0, 0)))
	refuseAll()
	c.takes(yes(1, t1, 0, at(5, 0, 1)), commitOf(t1, 0, at(5, 0, 1)))
	refuseAll()
	c.wantWaiting(commit)
	c.ends(notDone(t1, 0), api.Answer{Status: api.ErrAborted}, decideOf(1, t1, 0, api.Aborted, zero))
	c.now(begin, api.OK, t2, at(0, 2, 2))
}

// filled gives operations with just one field that is not zero, by the fields' names.
func filled() ([]string, []api.Op) {
	return []string{"ReadOnly", "AsOf", "Back", "Token", "Key", "Hi", "Value", "Limit"},
		[]api.Op{{ReadOnly: true}, {AsOf: true}, {Back: true}, {Token: "t"}, {Key: "k"}, {Hi: "h"}, {Value: "v"}, {Limit: 1}}
}

// with lays the fields of one operation that are not zero upon another.
func with(a, b api.Op) api.Op {
	a.ReadOnly = a.ReadOnly || b.ReadOnly
	a.AsOf = a.AsOf || b.AsOf
	a.Back = a.Back || b.Back
	a.Token += b.Token
	a.Key += b.Key
	a.Hi += b.Hi
	a.Value += b.Value
	a.Limit += b.Limit
	return a
}

// P16.2: a field that the kind does not name must be zero.
func TestFieldsThatAreNotNamed(t *testing.T) {
	named := map[api.OpKind]string{
		api.OpBegin:  " ReadOnly AsOf Token ",
		api.OpGet:    " Key ",
		api.OpScan:   " Key Hi Limit Back ",
		api.OpPut:    " Key Value ",
		api.OpDelete: " Key ",
		api.OpCommit: "",
		api.OpAbort:  "",
	}
	valid := []api.Op{begin, readOnly, beginWith(at(1, 0, 0)), beginAsOf(at(1, 0, 0)), get("a"), scan("", ""), scan("a", "b"), put("a", ""), put("a", "1"), del("a"), commit, abort}
	fields, more := filled()
	for _, op := range valid {
		for i, field := range fields {
			if strings.Contains(named[op.Kind], " "+field+" ") {
				continue
			}
			fresh(t, 2, config()).refused(with(op, more[i]), api.ErrArg)
			begun(t).refused(with(op, more[i]), api.ErrArg)
		}
	}
}

// P16.2: the fields that the kind names, at their edges. What is valid gets a later refusal: nothing is open, or something is.
func TestFieldsThatAreNamed(t *testing.T) {
	long := func(n int) string { return strings.Repeat("\xff", n) }
	unread := fresh(t, 2, config())
	for _, op := range []api.Op{get("\x00"), get(long(maxKey)), del(long(maxKey)), put(long(maxKey), ""), put("a", long(maxValue)),
		scan("", ""), scan("a", ""), scan("", "\x00"), scan("a", "a\x00"), scan(long(maxBound), ""), scan("", long(maxBound)), scan(long(maxKey), long(maxBound)),
		{Kind: api.OpScan, Limit: 1}, {Kind: api.OpScan, Limit: 1<<63 - 1}, {Kind: api.OpScan, Back: true}, {Kind: api.OpScan, Key: "a", Hi: "b", Back: true, Limit: 3}, commit, abort} {
		unread.refused(op, api.ErrNone)
	}
	open := begun(t)
	for _, op := range []api.Op{begin, readOnly, {Kind: api.OpBegin, Token: "x"}, {Kind: api.OpBegin, ReadOnly: true, Token: long(100)}, {Kind: api.OpBegin, ReadOnly: true, AsOf: true, Token: "x"}, beginAsOf(at(topWall, 0, 0))} {
		open.refused(op, api.ErrOpen)
	}
	for _, op := range []api.Op{get(""), get(long(maxKey + 1)), del(""), del(long(maxKey + 1)), put("", "1"), put(long(maxKey+1), "1"), put("a", long(maxValue+1)),
		scan("a", "a"), scan("b", "a"), scan("a\x00", "a"), scan(long(maxBound+1), ""), scan("", long(maxBound+1)), {Kind: api.OpScan, Limit: -1}, {Kind: api.OpScan, Limit: -1 << 63},
		{Kind: api.OpBegin, AsOf: true}, {Kind: api.OpBegin, AsOf: true, Token: "x"}, {Kind: api.OpBegin, AsOf: true, ReadOnly: true},
		{}, {Kind: -1}, {Kind: 8}, {Kind: 1 << 32}, {Kind: 1<<32 + 6}} {
		unread.refused(op, api.ErrArg)
		open.refused(op, api.ErrArg)
	}
}

// P16.3: a token must be one.
func TestBeginWithATokenThatIsNone(t *testing.T) {
	c := fresh(t, 2, config())
	right := token.Encode(at(9, 0, 0))
	for _, text := range []string{"x", right[1:], right + "0", strings.ToUpper(token.Encode(at(10, 0, 0))), strings.Replace(right, "9", "8", 1), strings.Repeat("0", 40), "\x00"} {
		c.refused(api.Op{Kind: api.OpBegin, Token: text}, api.ErrToken)
		c.refused(api.Op{Kind: api.OpBegin, ReadOnly: true, Token: text}, api.ErrToken)
		c.refused(api.Op{Kind: api.OpBegin, ReadOnly: true, AsOf: true, Token: text}, api.ErrToken)
	}
	c.now(begin, api.OK, t1, s1)
}

// P16.3, P16.17: the start stamp is above the token's, and the clock stays there.
func TestBeginWithAToken(t *testing.T) {
	c := fresh(t, 2, config())
	c.now(beginWith(at(9, 7, 5)), api.OK, t1, at(9, 8, 2))
	c.now(abort, api.OK, t1, at(9, 8, 2))
	c.now(beginWith(at(3, 0, 0)), api.OK, t2, at(9, 9, 2))
	c.now(abort, api.OK, t2, at(9, 9, 2))
	c.s.Clock(20)
	c.now(api.Op{Kind: api.OpBegin, ReadOnly: true, Token: token.Encode(at(11, 0, 0))}, api.OK, t3, at(20, 0, 2))
	c.now(put("a", "1"), api.ErrReadOnly, t3, at(20, 0, 2))
}

// P16.3: as of a token the start stamp is the token's own; the clock hears of it, and issues nothing.
func TestBeginAsOf(t *testing.T) {
	c := fresh(t, 2, config())
	for i, seen := range []api.Stamp{at(9, 7, 5), zero, at(topWall-1, topNumber, 0)} {
		txn := api.Txn{Client: 2, Seq: uint32(i + 1)}
		c.now(beginAsOf(seen), api.OK, txn, seen)
		c.now(put("a", "1"), api.ErrReadOnly, txn, seen)
		c.now(abort, api.OK, txn, seen)
		if i == 1 {
			if last := c.s.clock.Last(); last != at(9, 7, 5) {
				t.Errorf("the clock's last stamp is %v", last)
			}
		}
	}
	c.now(begin, api.ErrExhausted, nobody, zero) // for that one the clock has heard of, too
	c.now(beginAsOf(at(4, 4, 4)), api.OK, api.Txn{Client: 2, Seq: 4}, at(4, 4, 4))
	c.now(commit, api.OK, api.Txn{Client: 2, Seq: 4}, at(4, 4, 4))
}

// P16.3: the clock refuses a token's stamp, or to tick.
func TestBeginWithoutAStamp(t *testing.T) {
	c := fresh(t, 2, config())
	for _, op := range []api.Op{beginWith(at(topWall, 0, 0)), beginAsOf(at(topWall, 0, 0)), {Kind: api.OpBegin, ReadOnly: true, Token: token.Encode(at(topWall, topNumber, topNumber))}} {
		c.refused(op, api.ErrExhausted)
	}
	c.s.Clock(topWall)
	c.refused(begin, api.ErrExhausted)
	c.now(beginWith(at(50, 3, 9)), api.ErrExhausted, nobody, zero)
	c.wantClosed()
	c.s.Clock(0)
	c.now(begin, api.OK, t1, at(50, 4, 2)) // the count did not rise, and what was observed stays so
	c.now(abort, api.OK, t1, at(50, 4, 2))
	c.now(beginWith(at(topWall-1, topNumber, 0)), api.ErrExhausted, nobody, zero)
	c.now(begin, api.ErrExhausted, nobody, zero)
	c.now(get("a"), api.ErrNone, nobody, zero)
}

// P16.3: the count of transactions ends.
func TestTheLastTransaction(t *testing.T) {
	c := fresh(t, 2, config())
	c.s.txns = topNumber - 1
	last := api.Txn{Client: 2, Seq: topNumber}
	c.now(begin, api.OK, last, s1)
	c.refused(begin, api.ErrOpen)
	c.now(abort, api.OK, last, s1)
	for range 2 {
		c.refused(begin, api.ErrExhausted)
		c.refused(beginWith(at(70, 0, 0)), api.ErrExhausted) // the clock does not hear of it
		c.refused(beginAsOf(at(1, 0, 0)), api.ErrExhausted)
		c.refused(api.Op{Kind: api.OpBegin, Token: "x"}, api.ErrToken)
		c.s.Kill()
	}
}

// P16.4: a read goes to all shards that have a part, each its own.
func TestReadParts(t *testing.T) {
	c := fresh(t, 4, three())
	start := at(0, 1, 4)
	c.now(begin, api.OK, api.Txn{Client: 4, Seq: 1}, start)
	for i, read := range []struct {
		op    api.Op
		parts []api.Part
	}{
		{get("a"), []api.Part{{Shard: 0, Span: point("a")}}},
		{get("g"), []api.Part{{Shard: 1, Span: point("g")}}},
		{get(strings.Repeat("\xff", maxKey)), []api.Part{{Shard: 2, Span: point(strings.Repeat("\xff", maxKey))}}},
		{scan("b", "p"), []api.Part{{Shard: 0, Span: api.Span{Lo: "b", Hi: "g"}}, {Shard: 1, Span: api.Span{Lo: "g", Hi: "p"}}}},
		{scan("g", "p\x00"), []api.Part{{Shard: 1, Span: api.Span{Lo: "g", Hi: "p"}}, {Shard: 2, Span: api.Span{Lo: "p", Hi: "p\x00"}}}},
		{scan("", ""), []api.Part{{Shard: 0, Span: api.Span{Hi: "g"}}, {Shard: 1, Span: api.Span{Lo: "g", Hi: "p"}}, {Shard: 2, Span: api.Span{Lo: "p"}}}},
		{api.Op{Kind: api.OpScan, Key: "q", Limit: 1, Back: true}, []api.Part{{Shard: 2, Span: api.Span{Lo: "q"}}}},
	} {
		number := uint32(i + 1)
		var want []api.Msg
		for _, p := range read.parts {
			want = append(want, readOf(p.Shard, number, start, p.Span.Lo, p.Span.Hi))
		}
		c.later(read.op, want...)
		c.wantTick(want...)
		for j := len(want) - 1; j > 0; j-- {
			c.takes(dataOf(want[j].To, number, start))
			c.wantTick(want[:j]...)
		}
		c.gives(dataOf(want[0].To, number, start))
	}
}

// P16.4: the count of requests ends.
func TestTheLastRequest(t *testing.T) {
	c := begun(t)
	c.s.requests = topNumber - 1
	c.later(get("a"), readOf(0, topNumber, s1, "a", "a\x00"))
	c.gives(dataOf(0, topNumber, s1, "a=1"), pairs("a=1")...)
	c.refused(get("a"), api.ErrExhausted)
	c.refused(scan("", ""), api.ErrExhausted)
	c.s.Kill()
	c.refused(get("a"), api.ErrNone)
	c.now(begin, api.OK, t2, at(0, 2, 2))
	c.refused(get("a"), api.ErrExhausted)
}

// key gives unlike keys.
func key(i int) string { return fmt.Sprintf("k%03d", i) }

// reads has client 2 read a key, of which there is nothing, by the next request.
func (c client) reads(key string) {
	c.t.Helper()
	_, start, _ := c.s.Open()
	n := c.s.requests + 1
	c.later(get(key), readOf(0, n, start, key, key+"\x00"))
	c.gives(dataOf(0, n, start))
}

// P16.4: a footprint that is full takes what it has already, and nothing else.
func TestFullFootprint(t *testing.T) {
	c := begun(t)
	for i := range maxReads {
		c.reads(key(i))
	}
	c.refused(get(key(maxReads)), api.ErrMany)
	c.refused(scan(key(0), key(1)), api.ErrMany)
	c.s.requests = topNumber
	c.refused(get(key(maxReads)), api.ErrMany) // ahead of ErrExhausted
	c.s.requests = maxReads
	c.reads(key(3))
	c.later(scan(key(4), key(4)+"\x00"), readOf(0, 18, s1, key(4), key(4)+"\x00")) // the same span as that of the get
	c.gives(dataOf(0, 18, s1))
	c.now(put("a", "1"), api.OK, t1, s1)
	var spans []api.Span
	for i := range maxReads {
		spans = append(spans, point(key(i)))
	}
	c.later(commit, prepareOf(0, t1, 0, s1, spans, api.Write{Key: "a", Value: "1"}))
}

// P16.4, P16.9: a read that is not answered OK does not join the footprint; nor does any of a read-only transaction.
func TestFootprintOfWhatWasAnswered(t *testing.T) {
	c := begun(t)
	for i := range maxReads + 3 {
		n := uint32(i + 1)
		c.later(get(key(i)), readOf(0, n, s1, key(i), key(i)+"\x00"))
		c.ends(noData(0, n, s1, api.ErrBusy), api.Answer{Status: api.ErrBusy, At: s1})
	}
	c.reads("b")
	c.reads("a")
	c.reads("b")
	c.now(put("a", "1"), api.OK, t1, s1)
	c.later(commit, prepareOf(0, t1, 0, s1, []api.Span{point("b"), point("a")}, api.Write{Key: "a", Value: "1"}))
	c.s.Kill()
	c.now(readOnly, api.OK, t2, at(0, 2, 2))
	for i := range 2 * maxReads {
		c.reads(key(i))
	}
	if len(c.s.open.reads) != 0 {
		t.Errorf("a read-only transaction keeps the footprint %v", c.s.open.reads)
	}
	c.now(commit, api.OK, t2, at(0, 2, 2))
}

// P16.5: the writes are the last of each key; MaxWrites keys are the most.
func TestWrites(t *testing.T) {
	c := fresh(t, 2, config())
	c.refused(put("a", "1"), api.ErrNone)
	c.refused(del("a"), api.ErrNone)
	c.now(begin, api.OK, t1, s1)
	for i := maxWrites - 1; i >= 0; i-- {
		c.now(put(key(i), "1"), api.OK, t1, s1)
	}
	c.refused(put("a", "1"), api.ErrMany)
	c.refused(del("a"), api.ErrMany)
	c.now(del(key(3)), api.OK, t1, s1)
	c.now(put(key(5), "5"), api.OK, t1, s1)
	c.now(del(key(7)), api.OK, t1, s1)
	c.now(put(key(7), ""), api.OK, t1, s1)
	c.refused(put("a", "1"), api.ErrMany) // a deletion takes its place, too
	var writes []api.Write
	for i := range maxWrites {
		writes = append(writes, api.Write{Key: key(i), Value: "1"})
	}
	writes[3] = api.Write{Key: key(3), Delete: true}
	writes[5].Value = "5"
	writes[7].Value = ""
	c.later(commit, prepareOf(0, t1, 0, s1, nil, writes...))
	c.s.Kill()
	c.now(readOnly, api.OK, t2, at(0, 2, 2))
	c.refused(put("a", "1"), api.ErrReadOnly)
	c.refused(del("a"), api.ErrReadOnly)
}

// P16.6: an abort ends the transaction, and nobody hears of it.
func TestAbort(t *testing.T) {
	c := fresh(t, 2, config())
	c.refused(abort, api.ErrNone)
	c.now(begin, api.OK, t1, s1)
	c.reads("a")
	c.now(put("b", "1"), api.OK, t1, s1)
	c.now(abort, api.OK, t1, s1)
	c.wantClosed()
	c.wantTick()
	c.wantToken("")
	c.refused(abort, api.ErrNone)
	start := at(0, 2, 2)
	c.now(begin, api.OK, t2, start)
	c.later(get("b"), readOf(0, 2, start, "b", "b\x00"))
	c.gives(dataOf(0, 2, start)) // what was written is forgotten
	c.now(put("z", "1"), api.OK, t2, start)
	c.later(commit, prepareOf(0, t2, 1, start, []api.Span{point("b")}), prepareOf(1, t2, 1, start, nil, api.Write{Key: "z", Value: "1"}))
}

// P16.7: without writes a commit ends at once, at the start stamp, whatever was read.
func TestCommitWithoutWrites(t *testing.T) {
	c := fresh(t, 2, config())
	c.refused(commit, api.ErrNone)
	c.s.Clock(5)
	c.now(begin, api.OK, t1, at(5, 0, 2))
	c.reads("a")
	c.now(commit, api.OK, t1, at(5, 0, 2))
	c.wantClosed()
	c.wantToken(token.Encode(at(5, 0, 2)))
	c.wantTick()
	c.refused(commit, api.ErrNone)
	c.now(beginAsOf(at(3, 0, 0)), api.OK, t2, at(3, 0, 0))
	c.now(commit, api.OK, t2, at(3, 0, 0))
	c.wantToken(token.Encode(at(3, 0, 0))) // the last one, though it is lower
	c.now(begin, api.OK, t3, at(5, 1, 2))
	c.now(put("a", "1"), api.OK, t3, at(5, 1, 2))
	c.refused(begin, api.ErrOpen)
	c.now(abort, api.OK, t3, at(5, 1, 2))
	c.wantToken(token.Encode(at(3, 0, 0)))
}

// P16.7: the participants have a part of what was read or written; the home is the lowest that has a write.
func TestCommitShares(t *testing.T) {
	c := fresh(t, 3, three())
	txn, start := api.Txn{Client: 3, Seq: 1}, at(0, 1, 3)
	c.now(begin, api.OK, txn, start)
	c.later(scan("z", ""), readOf(2, 1, start, "z", ""))
	c.gives(dataOf(2, 1, start))
	c.later(scan("a", "h"), readOf(0, 2, start, "a", "g"), readOf(1, 2, start, "g", "h"))
	c.takes(dataOf(0, 2, start))
	c.gives(dataOf(1, 2, start))
	for _, key := range []string{"q", "h", "p", "i"} {
		c.now(put(key, key), api.OK, txn, start)
	}
	want := []api.Msg{
		prepareOf(0, txn, 1, start, []api.Span{{Lo: "a", Hi: "g"}}),
		prepareOf(1, txn, 1, start, []api.Span{{Lo: "g", Hi: "h"}}, api.Write{Key: "h", Value: "h"}, api.Write{Key: "i", Value: "i"}),
		prepareOf(2, txn, 1, start, []api.Span{{Lo: "z"}}, api.Write{Key: "p", Value: "p"}, api.Write{Key: "q", Value: "q"}),
	}
	c.later(commit, want...)
	c.wantTick(want...)
	c.wantOpen(txn, start)
	c.takes(yes(1, txn, 1, at(4, 0, 1)))
	c.wantTick(want[0], want[2])
	c.takes(yes(0, txn, 1, at(9, 3, 0)))
	c.wantTick(want[2])
	c.takes(yes(2, txn, 1, at(9, 2, 2)), commitOf(txn, 1, at(9, 3, 0)))
	c.wantTick(commitOf(txn, 1, at(9, 3, 0)))
	c.wantOpen(txn, start)
	c.ends(doneOf(txn, 1, at(9, 3, 0)), api.Answer{At: at(9, 3, 0), Token: token.Encode(at(9, 3, 0))},
		decideOf(0, txn, 1, api.Committed, at(9, 3, 0)), decideOf(2, txn, 1, api.Committed, at(9, 3, 0)))
	c.wantTick()
	c.wantClosed()
	c.now(begin, api.OK, api.Txn{Client: 3, Seq: 2}, at(9, 4, 3)) // P16.17
}

// P16.13: what a kill takes away, and what it leaves.
func TestKill(t *testing.T) {
	c := begun(t)
	c.now(commit, api.OK, t1, s1)
	c.wantToken(token.Encode(s1))
	c.s.Clock(30)
	c.s.Kill()
	c.wantToken("")
	c.now(begin, api.OK, t2, at(30, 0, 2))
	c.now(put("a", "1"), api.OK, t2, at(30, 0, 2))
	c.s.Kill()
	c.wantClosed()
	c.refused(commit, api.ErrNone)
	c.now(begin, api.OK, t3, at(30, 1, 2))
	c.later(get("a"), readOf(0, 1, at(30, 1, 2), "a", "a\x00"))
	c.s.Kill()
	if op, waits := c.s.Waiting(); waits || op != (api.Op{}) {
		t.Errorf("%+v waits behind Kill", op)
	}
	c.wantTick()
	c.passes(dataOf(0, 1, at(30, 1, 2)))
	txn, start := api.Txn{Client: 2, Seq: 4}, at(30, 2, 2)
	c.now(begin, api.OK, txn, start)
	c.later(get("a"), readOf(0, 2, start, "a", "a\x00"))
	c.gives(dataOf(0, 2, start))
	c.now(put("a", "1"), api.OK, txn, start)
	c.later(commit, prepareOf(0, txn, 0, start, []api.Span{point("a")}, api.Write{Key: "a", Value: "1"}))
	c.s.Kill()
	c.wantTick()
	c.passes(yes(0, txn, 0, at(40, 0, 0)))
	c.s.Kill()
	c.now(begin, api.OK, api.Txn{Client: 2, Seq: 5}, at(30, 3, 2))
}

// Nothing panics: a session that New did not make has a face all the same.
func TestASessionThatNewDidNotMake(t *testing.T) {
	s := new(Session)
	for range 3 {
		for _, op := range append(anyOperations(), begin, put("a", "1"), commit) {
			s.Do(op)
			s.Deliver(api.Msg{Kind: api.MsgVote, Txn: api.Txn{Seq: 1}, At: at(5, 0, 0)})
			s.Tick()
			s.Waiting()
			s.Open()
		}
		s.Kill()
		s.Clock(topWall)
	}
}
