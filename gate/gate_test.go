package gate

import (
	"math"
	"slices"
	"strings"
	"testing"

	"tidemark/api"
	"tidemark/session"
	"tidemark/token"
)

// config is that of DOC.md's examples: the shards 0 (keys below m) and 1, the clients 2 and 3.
func config() api.Config {
	return api.Config{Shards: 2, Clients: 2, Splits: []string{"m"}, Capacity: 65536, Park: 4, Window: 10}
}

var (
	t1 = api.Txn{Client: 2, Seq: 1}
	t2 = api.Txn{Client: 2, Seq: 2}
	s1 = at(0, 1, 2) // the start stamp of the first transaction of client 2, without a reading
)

// Messages out, from client 2.

func readOf(to, op uint32, when api.Stamp, lo, hi string) api.Msg {
	return api.Msg{Kind: api.MsgRead, From: 2, To: to, Op: op, At: when, Reads: []api.Span{{Lo: lo, Hi: hi}}}
}

func getOf(to, op uint32, when api.Stamp, key string) api.Msg {
	return readOf(to, op, when, key, key+"\x00")
}

func prepareOf(to uint32, txn api.Txn, home uint32, when api.Stamp, reads []api.Span, writes ...api.Write) api.Msg {
	return api.Msg{Kind: api.MsgPrepare, From: 2, To: to, Txn: txn, Home: home, At: when, Reads: reads, Writes: writes}
}

func commitOf(txn api.Txn, home uint32, when api.Stamp) api.Msg {
	return api.Msg{Kind: api.MsgCommit, From: 2, To: home, Txn: txn, Home: home, At: when}
}

func decideOf(to uint32, txn api.Txn, home uint32, o api.Outcome, when api.Stamp) api.Msg {
	return api.Msg{Kind: api.MsgDecide, From: 2, To: to, Txn: txn, Home: home, Outcome: o, At: when}
}

// Messages in, to client 2.

func dataOf(from, op uint32, when api.Stamp, texts ...string) api.Msg {
	return api.Msg{Kind: api.MsgData, From: from, To: 2, Op: op, At: when, Pairs: pairs(texts...)}
}

func yes(from uint32, txn api.Txn, home uint32, when api.Stamp) api.Msg {
	return api.Msg{Kind: api.MsgVote, From: from, To: 2, Txn: txn, Home: home, At: when}
}

func doneOf(txn api.Txn, home uint32, when api.Stamp) api.Msg {
	return api.Msg{Kind: api.MsgDone, From: home, To: 2, Txn: txn, Home: home, Outcome: api.Committed, At: when}
}

func sameMsg(a, b api.Msg) bool {
	return a.Kind == b.Kind && a.From == b.From && a.To == b.To && a.Txn == b.Txn && a.Home == b.Home &&
		a.Op == b.Op && a.At == b.At && a.Status == b.Status && a.Outcome == b.Outcome &&
		slices.Equal(a.Reads, b.Reads) && slices.Equal(a.Writes, b.Writes) && slices.Equal(a.Pairs, b.Pairs)
}

// talk is a gate whose answers are held to what is wanted. In its texts ; stands for a byte 0a.
type talk struct {
	*testing.T
	g *Gate
}

func newTalk(t *testing.T) talk {
	t.Helper()
	g := New(2, config())
	if g == nil {
		t.Fatal("no gate")
	}
	return talk{t, g}
}

func ended(text string) string { return strings.ReplaceAll(text, ";", "\n") }

// wants holds what a call brought to what is wanted.
func (c talk) wants(what, text string, out []api.Msg, want string, pending int, wantOut []api.Msg) {
	c.Helper()
	if text != ended(want) || c.g.Pending() != pending || !slices.EqualFunc(out, wantOut, sameMsg) {
		c.Errorf("%s: %q, %+v, %d pending, want %q, %+v, %d", what, text, out, c.g.Pending(), ended(want), wantOut, pending)
	}
}

// in hands bytes in.
func (c talk) in(chunk, want string, pending int, wantOut ...api.Msg) {
	c.Helper()
	text, out := c.g.Input(ended(chunk))
	c.wants("Input", text, out, want, pending, wantOut)
}

// hears hands a message in.
func (c talk) hears(m api.Msg, want string, pending int, wantOut ...api.Msg) {
	c.Helper()
	text, out := c.g.Deliver(m)
	c.wants("Deliver", text, out, want, pending, wantOut)
}

// ticks lets the timer fire.
func (c talk) ticks(pending int, wantOut ...api.Msg) {
	c.Helper()
	c.wants("Tick", "", c.g.Tick(), "", pending, wantOut)
}

// P21.4: there is a gate where there is a session.
func TestNewIsNilWithoutASession(t *testing.T) {
	wrong := config()
	wrong.Splits = nil
	for _, c := range []api.Config{config(), wrong, {}, {Shards: 1, Clients: 6, Capacity: 256}} {
		for _, node := range []uint32{0, 1, 2, 3, 4, 6, 7, 1 << 31, math.MaxUint32} {
			if g, s := New(node, c), session.New(node, c); (g == nil) != (s == nil) {
				t.Errorf("New(%d, %+v) is nil: %v, its session: %v", node, c, g == nil, s == nil)
			}
		}
	}
	c := newTalk(t)
	c.ticks(0)
	c.in("", "", 0)
}

// P21.4: a gate's session has the gate's node, and the clock the readings.
func TestClock(t *testing.T) {
	c := newTalk(t)
	c.g.Clock(50)
	c.in("begin ro %;", "begun 2 1 50.0.2;", 0)
	c.g.Clock(40)
	c.in("commit;begin rw %;abort;", "committed 50.0.2 "+token.Encode(at(50, 0, 2))+";begun 2 2 50.1.2;ok;", 0)
	c.g.Clock(math.MaxUint64)
	c.in("begin rw %;", "error exhausted;", 0)
	c.g = New(3, config())
	c.in("begin rw %;", "begun 3 1 0.1.3;", 0)
}

// P21.5 to P21.8: the chapter's example.
func TestTheExample(t *testing.T) {
	c := newTalk(t)
	decided := at(3, 0, 0)
	c.in("begin rw %;put a 1;get a;comm", "begun 2 1 0.1.2;ok;", 1, getOf(0, 1, s1, "a"))
	c.in("it;bogus;", "", 3)
	c.hears(dataOf(0, 1, s1), "value 1;", 2, prepareOf(0, t1, 0, s1, []api.Span{{Lo: "a", Hi: "a\x00"}}, api.Write{Key: "a", Value: "1"}))
	c.hears(yes(0, t1, 0, decided), "", 2, commitOf(t1, 0, decided))
	c.hears(doneOf(t1, 0, decided), "committed 3.0.0 "+token.Encode(decided)+";error request;", 0)
}

// P21.5: bytes are cut into lines at each 0a, one 0d ahead of it is left out, and empty lines are passed over.
func TestLinesOfTheBytes(t *testing.T) {
	for bytes, want := range map[string]string{
		"":                          "",
		"abort":                     "",
		"abort\r":                   "",
		"abort\n":                   "error none;",
		"abort\r\n":                 "error none;",
		"abort\r\r\n":               "error request;",
		"\rabort\n":                 "error request;",
		"ab\rort\n":                 "error request;",
		"abort\n\r":                 "error none;",
		"abort\rabort\r":            "",
		"abort\rabort\n":            "error request;",
		"\n":                        "",
		"\n\n\n\r\n\n\r\n":          "",
		"\r\r\n":                    "error request;",
		"\r\r\r\n":                  "error request;",
		" \n":                       "error request;",
		"\x00\n":                    "error request;",
		"\xff\xfe\n":                "error request;",
		"\n\nabort\n\n\nabort\n\nx": "error none;error none;",
		"abort\nx\r\nget\nget k\n":  "error none;error request;error request;error none;",
		"get %\n":                   "error arg;",
		"get %0a\n":                 "error none;",
		"begin rw x\n":              "error token;",
		"begin at %\n":              "error arg;",
		"begin rw %\nbegin ro %\n":  "begun 2 1 0.1.2;error open;",
		"begin ro %\nput a 1\n":     "begun 2 1 0.1.2;error readonly;",
		"begin rw %\nput a 1\ndel a\nabort\ncommit\n": "begun 2 1 0.1.2;ok;ok;ok;error none;",
		"scan b a 0\nrscan b a 0\n":                   "error arg;error arg;",
	} {
		c := newTalk(t)
		c.in(bytes, want, 0)
	}
}

// P21.5: lines of MaxLine bytes and more, with a 0d and without: none harms the next one.
func TestLongLines(t *testing.T) {
	for n := maxLine - 3; n < maxLine+6; n++ {
		for _, fill := range []string{"x", "\r", "\x00"} {
			for _, end := range []string{";", "\r;", "\r\r;"} {
				line := "get " + strings.Repeat(fill, n-4)
				want := "error request;"
				if stripped, _ := strings.CutSuffix(line+strings.TrimSuffix(end, ";"), "\r"); len(stripped) <= maxLine && !strings.ContainsAny(stripped, "\r\x00") {
					want = "error arg;" // the key is too long for a key
				}
				c := newTalk(t)
				c.in(line+end+"abort;", want+"error none;", 0)
				c.in(line, "", 0)
				c.in(end+"abort;", want+"error none;", 0)
			}
		}
	}
	c := newTalk(t)
	for range 1000 {
		c.in(strings.Repeat("abort\r", 1000), "", 0)
	}
	c.in("\r;abort;", "error request;error none;", 0)
	c.in(strings.Repeat("\r", 1<<20)+";"+strings.Repeat(" ", 1<<20)+";\r;abort;", "error request;error request;error none;", 0)
}

// P21.6: a request has its turn when the one ahead of it is answered, a refused one too.
func TestTurns(t *testing.T) {
	c := newTalk(t)
	c.in("begin rw %;get a;bogus;get b;put c 1;x;y;get c;abort;abort;", "begun 2 1 0.1.2;", 9, getOf(0, 1, s1, "a"))
	c.in("\r;;z", "", 9)
	c.in(";", "", 10)
	c.hears(dataOf(0, 1, s1, "a=1"), "value 1;error request;", 8, getOf(0, 2, s1, "b"))
	c.hears(dataOf(0, 1, s1, "a=1"), "", 8)
	c.hears(dataOf(0, 2, s1), "none;ok;error request;error request;", 4, getOf(0, 3, s1, "c"))
	c.hears(dataOf(0, 3, s1, "c=7"), "value 1;ok;error none;error request;", 0)
	c.hears(dataOf(0, 3, s1, "c=7"), "", 0)
}

// P21.6: an error that a message brings is replied to, and the gate goes on.
func TestErrorsThatComeByMessages(t *testing.T) {
	c := newTalk(t)
	c.in("begin rw %;get a;put a 1;commit;begin rw %;put a 2;commit;get a;", "begun 2 1 0.1.2;", 7, getOf(0, 1, s1, "a"))
	busy := dataOf(0, 1, s1)
	busy.Status = api.ErrBusy
	c.hears(busy, "error busy;ok;", 5, prepareOf(0, t1, 0, s1, nil, api.Write{Key: "a", Value: "1"}))
	stale := yes(0, t1, 0, api.Stamp{})
	stale.Status = api.ErrStale
	s2 := at(0, 2, 2)
	c.hears(stale, "error stale;begun 2 2 0.2.2;ok;", 2,
		decideOf(0, t1, 0, api.Aborted, api.Stamp{}), // what the message itself brings goes ahead
		prepareOf(0, t2, 0, s2, nil, api.Write{Key: "a", Value: "2"}))
	c.hears(yes(0, t2, 0, at(0, 3, 0)), "", 2, commitOf(t2, 0, at(0, 3, 0)))
	none := doneOf(t2, 0, api.Stamp{})
	none.Outcome = api.Aborted
	c.hears(none, "error aborted;error none;", 0)
}

// P21.7: what a message itself brings goes ahead of what the next requests bring, and messages of several requests stand in their order.
func TestTheOrderOfWhatIsSent(t *testing.T) {
	c := newTalk(t)
	c.in("begin rw %;put a 1;put z 2;commit;begin rw %;scan % % 0;abort;", "begun 2 1 0.1.2;ok;ok;", 4,
		prepareOf(0, t1, 0, s1, nil, api.Write{Key: "a", Value: "1"}), prepareOf(1, t1, 0, s1, nil, api.Write{Key: "z", Value: "2"}))
	c.hears(yes(1, t1, 0, at(7, 0, 1)), "", 4)
	c.hears(yes(0, t1, 0, at(3, 0, 0)), "", 4, commitOf(t1, 0, at(7, 0, 1)))
	s2 := at(7, 1, 2)
	c.hears(doneOf(t1, 0, at(7, 0, 1)), "committed 7.0.1 "+token.Encode(at(7, 0, 1))+";begun 2 2 7.1.2;", 2,
		decideOf(1, t1, 0, api.Committed, at(7, 0, 1)), readOf(0, 1, s2, "", "m"), readOf(1, 1, s2, "m", ""))
	c.hears(dataOf(1, 1, s2, "z=2"), "", 2)
	c.hears(dataOf(0, 1, s2, "a=x y"), "pairs 2 a x%20y z 2;ok;", 0)
}

// P21.7: a message that does not count brings nothing and changes nothing.
func TestMessagesThatDoNotCount(t *testing.T) {
	wrong := []api.Msg{
		{}, dataOf(1, 1, s1), dataOf(0, 2, s1), dataOf(0, 1, at(0, 2, 2)), dataOf(0, 1, s1, "b=1"), yes(0, t1, 0, at(9, 0, 0)), doneOf(t1, 0, at(9, 0, 0)), getOf(0, 1, s1, "a"),
		{Kind: api.MsgData, To: 3, Op: 1, At: s1}, {Kind: 99, To: 2},
	}
	c := newTalk(t)
	for _, m := range append(wrong, dataOf(0, 1, s1)) {
		c.hears(m, "", 0)
	}
	c.in("begin rw %;get a;x;", "begun 2 1 0.1.2;", 2, getOf(0, 1, s1, "a"))
	for _, m := range wrong {
		c.hears(m, "", 2)
	}
	c.hears(dataOf(0, 1, s1), "none;error request;", 0)
}

// P21.8: Tick sends again what waits at the session, and changes nothing.
func TestTick(t *testing.T) {
	c := newTalk(t)
	c.ticks(0)
	c.in("begin rw %;scan % % 0;put a 1;commit;", "begun 2 1 0.1.2;", 3, readOf(0, 1, s1, "", "m"), readOf(1, 1, s1, "m", ""))
	for range 3 {
		c.ticks(3, readOf(0, 1, s1, "", "m"), readOf(1, 1, s1, "m", ""))
	}
	c.hears(dataOf(0, 1, s1), "", 3)
	c.ticks(3, readOf(1, 1, s1, "m", ""))
	parts := [2]api.Msg{
		prepareOf(0, t1, 0, s1, []api.Span{{Hi: "m"}}, api.Write{Key: "a", Value: "1"}),
		prepareOf(1, t1, 0, s1, []api.Span{{Lo: "m"}}),
	}
	c.hears(dataOf(1, 1, s1), "pairs 0;ok;", 1, parts[:]...)
	c.ticks(1, parts[:]...)
	c.hears(yes(0, t1, 0, at(5, 0, 0)), "", 1)
	c.ticks(1, parts[1])
	c.hears(yes(1, t1, 0, at(5, 0, 1)), "", 1, commitOf(t1, 0, at(5, 0, 1)))
	c.ticks(1, commitOf(t1, 0, at(5, 0, 1)))
	c.hears(doneOf(t1, 0, at(5, 0, 1)), "committed 5.0.1 "+token.Encode(at(5, 0, 1))+";", 0, decideOf(1, t1, 0, api.Committed, at(5, 0, 1)))
	c.ticks(0)
}

// P21.8: bytes of a line that has not ended don't count, nor do lines that are passed over.
func TestPending(t *testing.T) {
	c := newTalk(t)
	c.in("begin rw %;get a;", "begun 2 1 0.1.2;", 1, getOf(0, 1, s1, "a"))
	pending := 1
	for i, chunk := range []string{"get b", ";", "\r", "\n", "\n\n\n", "x\ny\n", strings.Repeat("x", 1000), "x", "\nabort", "\r\n"} {
		pending += []int{0, 1, 0, 0, 0, 2, 0, 0, 1, 1}[i]
		c.in(chunk, "", pending)
	}
	c.hears(dataOf(0, 1, s1), "none;", 5, getOf(0, 2, s1, "b"))
	c.hears(dataOf(0, 2, s1), "none;error request;error request;error request;ok;", 0)
}

// P21.7: there may be as many requests ahead of a reply as one likes.
func TestManyRequestsAtOnce(t *testing.T) {
	const many = 20000
	c := newTalk(t)
	c.in("begin ro %;get a;", "begun 2 1 0.1.2;", 1, getOf(0, 1, s1, "a"))
	c.in(strings.Repeat("x;put a 1;;", many), "", 2*many+1)
	c.hears(dataOf(0, 1, s1), "none;"+strings.Repeat("error request;error readonly;", many), 0)
	c.in(strings.Repeat("x;put a 1;;", many), strings.Repeat("error request;error readonly;", many), 0)
}

// P21.12: a gate that New did not make has no shards to ask, and nothing panics.
func TestAGateOfNothing(t *testing.T) {
	c := talk{t, new(Gate)}
	c.ticks(0)
	c.hears(dataOf(0, 1, s1), "", 0)
	c.in("x;begin rw %;put a 1;get a;", "error request;begun 0 1 0.1.0;ok;", 1)
	c.hears(dataOf(0, 1, s1), "", 1)
	c.ticks(1)
}
