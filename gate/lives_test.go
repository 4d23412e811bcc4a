package gate

import (
	"fmt"
	"math/rand"
	"slices"
	"strings"
	"testing"

	"tidemark/api"
	"tidemark/session"
	"tidemark/token"
)

// life is a gate beside its model, and beside a second gate whose bytes are cut otherwise.
type life struct {
	t       *testing.T
	r       *rand.Rand
	node    uint32
	g, cut  *Gate
	m       *model
	keys    []string
	asked   []api.Msg // what went out
	heard   []api.Msg // what came in
	written string    // all replies
	counts  map[string]int
}

func newLife(t *testing.T, seed int64, counts map[string]int) *life {
	r := rand.New(rand.NewSource(seed))
	c := api.Config{Shards: 1 + r.Intn(3), Clients: 1 + r.Intn(3), Capacity: 256, Window: r.Uint64()}
	c.Splits = []string{"f", "m"}[:c.Shards-1]
	node := uint32(c.Shards + r.Intn(c.Clients))
	l := &life{t: t, r: r, node: node, g: New(node, c), cut: New(node, c), m: &model{s: session.New(node, c)}, counts: counts}
	l.keys = []string{"a", "b", "f", "k", "m", "z", "a b", "\n"}
	return l
}

func (l *life) one(list ...string) string { return list[l.r.Intn(len(list))] }

func (l *life) when() api.Stamp {
	return at(uint64(l.r.Intn(30)), uint32(l.r.Intn(3)), uint32(l.r.Intn(6)))
}

// drawLine draws a request, mostly a right one, or a line that is none.
func (l *life) drawLine() string {
	op := api.Op{Kind: [...]api.OpKind{1, 1, 2, 3, 4, 4, 4, 5, 6, 6, 6, 7}[l.r.Intn(12)]}
	switch op.Kind {
	case api.OpBegin:
		op.ReadOnly = l.r.Intn(3) == 0
		op.AsOf = op.ReadOnly && l.r.Intn(2) == 0
		op.Token = l.one("", "", "x", token.Encode(l.when()), l.m.s.Token())
	case api.OpGet, api.OpDelete:
		op.Key = l.one(l.keys...)
	case api.OpPut:
		op.Key, op.Value = l.one(l.keys...), l.one("", "1", "\r\n")
	case api.OpScan:
		op.Key, op.Hi, op.Limit, op.Back = l.one("", "a", "g"), l.one("", "g", "z", "a"), l.r.Intn(3), l.r.Intn(2) == 0
	}
	line, _ := Request(op)
	switch n := l.r.Intn(30); {
	case n < 2:
		return l.one("", "\r", "bogus", "get", "\x00\xff", line+" ", line+"\r", "\r"+line, " "+line)
	case n == 2:
		return strings.Repeat(l.one("x", "\r", " ", line+" "), 1+l.r.Intn(500))
	case n == 3:
		return "get " + strings.Repeat(l.one("x", "\r"), maxLine-7+l.r.Intn(8))
	}
	return line
}

// drawBytes draws some lines; the last one may stay without its end.
func (l *life) drawBytes() string {
	text := ""
	for range l.r.Intn(6) {
		text += l.drawLine() + l.one("\n", "\n", "\r\n")
	}
	if l.r.Intn(3) == 0 {
		line := l.drawLine()
		text += line[:l.r.Intn(len(line)+1)]
	}
	return text
}

// reply draws what a shard may answer to what went out.
func (l *life) reply(asked api.Msg) api.Msg {
	m := api.Msg{From: asked.To, To: asked.From, Txn: asked.Txn, Home: asked.Home, Op: asked.Op}
	fails := l.r.Intn(5) == 0
	switch asked.Kind {
	case api.MsgRead:
		m.Kind, m.At = api.MsgData, asked.At
		if fails {
			m.Status = []api.Errno{api.ErrExhausted, api.ErrFull, api.ErrOld, api.ErrBusy, api.ErrMany}[l.r.Intn(5)]
			break
		}
		for _, key := range slices.Sorted(slices.Values(l.keys)) {
			if span := asked.Reads[0]; span.Lo <= key && (span.Hi == "" || key < span.Hi) && l.r.Intn(2) == 0 {
				m.Pairs = append(m.Pairs, api.Pair{Key: key, Value: l.one("", "8", " \xff")})
			}
		}
	case api.MsgPrepare:
		m.Kind, m.At = api.MsgVote, at(asked.At.Wall+uint64(l.r.Intn(3)), asked.At.Logical+uint32(l.r.Intn(3)), uint32(l.r.Intn(7)))
		if fails {
			m.Status, m.At = []api.Errno{api.ErrExhausted, api.ErrFull, api.ErrOld, api.ErrConflict, api.ErrStale, api.ErrAborted}[l.r.Intn(6)], api.Stamp{}
		}
	case api.MsgCommit:
		m.Kind, m.Outcome, m.At = api.MsgDone, api.Committed, asked.At
		if fails {
			m.Outcome, m.At = api.Aborted, api.Stamp{}
		}
	}
	return m
}

// drawMsg draws a message: an answer to what waits or waited, one that came before, or one that is spoilt.
func (l *life) drawMsg() api.Msg {
	waiting := l.m.s.Tick()
	if len(waiting) == 0 || l.r.Intn(10) == 0 {
		waiting = l.asked
	}
	if len(waiting) == 0 || len(l.heard) > 0 && l.r.Intn(10) == 0 {
		return append(l.heard, api.Msg{})[l.r.Intn(len(l.heard)+1)]
	}
	m := l.reply(waiting[l.r.Intn(len(waiting))])
	if l.r.Intn(10) == 0 {
		m.At, m.From = l.when(), uint32(l.r.Intn(3))
	}
	return m
}

// alike holds what a call brought, at both gates, to the model, and the replies to the requests.
func (l *life) alike(what, text, cutText, want string, out, cutOut, wantOut []api.Msg) {
	l.t.Helper()
	if text != want || !slices.EqualFunc(out, wantOut, sameMsg) {
		l.t.Fatalf("%s brings %q, %+v, want %q, %+v", what, text, out, want, wantOut)
	}
	if cutText != want || !slices.EqualFunc(cutOut, wantOut, sameMsg) {
		l.t.Fatalf("%s, cut otherwise, brings %q, %+v, want %q, %+v", what, cutText, cutOut, want, wantOut)
	}
	l.written += text
	l.asked = append(l.asked, out...)
	pending, read := l.m.pending(), len(l.m.requests())
	if l.g.Pending() != pending || l.cut.Pending() != pending || strings.Count(l.written, "\n")+pending != read {
		l.t.Fatalf("behind %s %d and %d are pending, %d replies to %d requests are written, want %d pending", what, l.g.Pending(), l.cut.Pending(), strings.Count(l.written, "\n"), read, pending)
	}
	for line := range strings.Lines(text) {
		l.counts[strings.Fields(line)[0]]++
		if strings.HasPrefix(line, "error") {
			l.counts[strings.TrimSpace(line)]++
		}
	}
	if pending > 1 {
		l.counts["pipelined"]++
	}
}

// input hands bytes to the one gate whole, to the other one in pieces.
func (l *life) input(bytes string) {
	l.t.Helper()
	text, out := l.g.Input(bytes)
	want, wantOut := l.m.input(bytes)
	var cutText string
	var cutOut []api.Msg
	for rest := bytes; rest != ""; {
		n := 1 + l.r.Intn(min(len(rest), 1+l.r.Intn(40)))
		t, o := l.cut.Input(rest[:n])
		cutText, cutOut, rest = cutText+t, append(cutOut, o...), rest[n:]
	}
	l.alike(fmt.Sprintf("Input(%q)", bytes), text, cutText, want, out, cutOut, wantOut)
}

func (l *life) deliver(m api.Msg) {
	l.t.Helper()
	l.heard = append(l.heard, m)
	text, out := l.g.Deliver(m)
	cutText, cutOut := l.cut.Deliver(m)
	want, wantOut := l.m.deliver(m)
	l.alike(fmt.Sprintf("Deliver(%+v)", m), text, cutText, want, out, cutOut, wantOut)
}

func (l *life) tick() {
	l.t.Helper()
	l.alike("Tick", "", "", "", l.g.Tick(), l.cut.Tick(), l.m.s.Tick())
	l.counts["tick"]++
}

func (l *life) clock() {
	wall := uint64(l.r.Intn(40))
	l.g.Clock(wall)
	l.cut.Clock(wall)
	l.m.s.Clock(wall)
}

func (l *life) step() {
	switch n := l.r.Intn(20); {
	case n == 0:
		l.clock()
	case n == 1:
		l.tick()
	case n < 7:
		l.input(l.drawBytes())
	default:
		l.deliver(l.drawMsg())
	}
}

// P21.5 to P21.11: drawn lives, held to the model, with the bytes cut in two ways.
func TestLives(t *testing.T) {
	counts := map[string]int{}
	for seed := range int64(1500) {
		l := newLife(t, seed, counts)
		for range 120 {
			l.step()
		}
	}
	for _, what := range []string{
		"begun", "value", "none", "pairs", "committed", "ok", "tick", "pipelined",
		"error request", "error arg", "error token", "error open", "error none", "error readonly", "error stale", "error conflict", "error busy", "error aborted", "error old", "error full", "error exhausted", "error many",
	} {
		if counts[what] < 50 {
			t.Errorf("%s came %d times: the draw is too poor", what, counts[what])
		}
	}
	if counts["error wait"] > 0 {
		t.Errorf("error wait was replied %d times", counts["error wait"])
	}
}

// P21.9: one run of bytes, cut in two at each place and into single bytes.
func TestEveryCut(t *testing.T) {
	bytes := "begin rw %\r\nput a 1\n\n\r\nx\rget\r\r\n" + "get " + strings.Repeat("x", 396) + "\r\n" + strings.Repeat("y", 401) + "\n" + strings.Repeat("z", 402) + "\r\nget a\nabort\nbogus\nge"
	g := New(2, config())
	want, wantOut := g.Input(bytes)
	same := func(what string, h *Gate, text string, out []api.Msg) {
		t.Helper()
		if text != want || !slices.EqualFunc(out, wantOut, sameMsg) || h.Pending() != g.Pending() {
			t.Fatalf("%s: %q, %+v, %d pending, want %q, %+v", what, text, out, h.Pending(), want, wantOut)
		}
		rest, restOut := h.Deliver(dataOf(0, 1, s1))
		more, moreOut := h.Input("t a\n")
		if rest+more != "value 1\nok\nerror request\nerror none\n" || len(restOut)+len(moreOut) != 0 {
			t.Fatalf("%s, and then: %q, %q", what, rest, more)
		}
	}
	for i := range len(bytes) + 1 {
		h := New(2, config())
		a, aOut := h.Input(bytes[:i])
		b, bOut := h.Input(bytes[i:])
		same(fmt.Sprintf("cut at %d", i), h, a+b, append(aOut, bOut...))
	}
	h, text, out := New(2, config()), "", []api.Msg(nil)
	for i := range len(bytes) {
		a, aOut := h.Input(bytes[i : i+1])
		text, out = text+a, append(out, aOut...)
	}
	same("single bytes", h, text, out)
}

// FuzzInput: P21.5 to P21.12, at any bytes, cut anywhere.
func FuzzInput(f *testing.F) {
	f.Add("begin rw %\nput a 1\nget a\ncommit\nbogus\n", uint16(7))
	f.Add(strings.Repeat("x", 401)+"\r\nabort\n", uint16(401))
	f.Fuzz(func(t *testing.T, bytes string, place uint16) {
		i := min(int(place), len(bytes))
		g, h, m := New(2, config()), New(2, config()), &model{s: session.New(2, config())}
		text, out := g.Input(bytes)
		want, wantOut := m.input(bytes)
		a, aOut := h.Input(bytes[:i])
		b, bOut := h.Input(bytes[i:])
		if text != want || a+b != want || !slices.EqualFunc(out, wantOut, sameMsg) || !slices.EqualFunc(append(aOut, bOut...), wantOut, sameMsg) || g.Pending() != m.pending() || h.Pending() != m.pending() {
			t.Fatalf("%q, cut at %d: %q, %+v; %q, %q, %+v, %+v; want %q, %+v", bytes, i, text, out, a, b, aOut, bOut, want, wantOut)
		}
	})
}
