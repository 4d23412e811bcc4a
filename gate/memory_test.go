package gate

import (
	"runtime"
	"slices"
	"strings"
	"testing"

	"tidemark/api"
)

// spoil writes over all lists of messages, spare room included.
func spoil(list []api.Msg) {
	for i := range list {
		m := &list[i]
		fill(m.Reads, api.Span{Lo: "spoilt"})
		fill(m.Writes, api.Write{Key: "spoilt"})
		fill(m.Pairs, api.Pair{Key: "spoilt"})
	}
	fill(list, api.Msg{Kind: 99})
}

func fill[E any](list []E, with E) {
	list = list[:cap(list)]
	for i := range list {
		list[i] = with
	}
}

// P21.12: writing into what went out changes nothing of what goes out later.
func TestMessagesOutAreNew(t *testing.T) {
	c := newTalk(t)
	_, out := c.g.Input("begin rw %\nscan % % 0\nput a 1\nput z 2\ncommit\n")
	spoil(out)
	spoil(c.g.Tick())
	c.ticks(4, readOf(0, 1, s1, "", "m"), readOf(1, 1, s1, "m", ""))
	_, out = c.g.Deliver(dataOf(0, 1, s1))
	spoil(out)
	_, out = c.g.Deliver(dataOf(1, 1, s1))
	spoil(out[:1:1])
	parts := []api.Msg{
		prepareOf(0, t1, 0, s1, []api.Span{{Hi: "m"}}, api.Write{Key: "a", Value: "1"}),
		prepareOf(1, t1, 0, s1, []api.Span{{Lo: "m"}}, api.Write{Key: "z", Value: "2"}),
	}
	c.wants("the other message", "", out[1:], "", 1, parts[1:])
	spoil(out)
	c.ticks(1, parts...)
	c.hears(yes(0, t1, 0, at(5, 0, 0)), "", 1)
	_, out = c.g.Deliver(yes(1, t1, 0, at(6, 0, 1)))
	spoil(out)
	c.ticks(1, commitOf(t1, 0, at(6, 0, 1)))
}

// P21.12: a message that is handed in is not changed, and not kept as it is; nor is an answer or a configuration.
func TestWhatIsHandedInIsNotKept(t *testing.T) {
	conf := config()
	c := talk{t, New(2, conf)}
	fill(conf.Splits, "a")
	c.in("begin ro %;rscan % % 0;", "begun 2 1 0.1.2;", 1, readOf(0, 1, s1, "", "m"), readOf(1, 1, s1, "m", ""))
	part := dataOf(0, 1, s1, "a=1", "b=2", "c=3")
	part.Pairs = part.Pairs[:2]
	c.hears(part, "", 1)
	if want := pairs("a=1", "b=2", "c=3"); !slices.Equal(part.Pairs[:3], want) {
		t.Errorf("Deliver changes the pairs to %v", part.Pairs[:3])
	}
	fill(part.Pairs, api.Pair{Key: "spoilt"})
	last := dataOf(1, 1, s1, "m=4", "n=5")
	c.hears(last, "pairs 4 n 5 m 4 b 2 a 1;", 0)
	if want := pairs("m=4", "n=5"); !slices.Equal(last.Pairs, want) {
		t.Errorf("Deliver changes the pairs to %v", last.Pairs)
	}
	answer := found(api.OpScan, "a=1", "b=2")
	answer.Pairs = answer.Pairs[:1]
	if Reply(answer) != "pairs 1 a 1" || !slices.Equal(answer.Pairs[:2], pairs("a=1", "b=2")) {
		t.Errorf("Reply changes the pairs to %v", answer.Pairs[:2])
	}
}

// Objects are apart: two gates of one configuration share nothing.
func TestGatesAreApart(t *testing.T) {
	conf := config()
	a, b := talk{t, New(2, conf)}, talk{t, New(2, conf)}
	a.g.Clock(9)
	a.in("begin rw %;get a;x;comm", "begun 2 1 9.0.2;", 2, getOf(0, 1, at(9, 0, 2), "a"))
	b.ticks(0)
	b.in("it;begin rw %;", "error request;begun 2 1 0.1.2;", 0)
	a.in("it;", "", 3)
}

// heap tells how many bytes are in use.
func heap() int64 {
	runtime.GC()
	runtime.GC()
	var m runtime.MemStats
	runtime.ReadMemStats(&m)
	return int64(m.HeapAlloc)
}

// P21.12: of a line that has not ended MaxLine + 2 bytes are kept, and no chunk that they came in.
func TestALineWithoutEndIsNotKept(t *testing.T) {
	if room := len(unended{}.room); room > maxLine+2 {
		t.Errorf("a line may take %d bytes", room)
	}
	gates := make([]*Gate, 50)
	for i := range gates {
		gates[i] = New(2, config())
	}
	before := heap()
	for _, g := range gates {
		g.Input(strings.Repeat("x", 100) + "\n" + strings.Repeat("x", 1<<20))
		g.Input("get a\nabort\n" + strings.Repeat("get a ", 1<<18) + "\nget b\nab")
	}
	if grown := heap() - before; grown > 1<<20 {
		t.Errorf("%d gates have grown by %d bytes", len(gates), grown)
	}
	for _, g := range gates {
		if text, _ := g.Input("ort\n"); text != "error none\n" {
			t.Fatalf("the line goes on with %q", text)
		}
	}
}

// What is kept is no more than the promises need: requests that wait keep no chunk, and those that are answered are let go.
func TestRequestsAreLetGo(t *testing.T) {
	const many = 20000
	g := New(2, config())
	before := heap()
	g.Input("begin ro %\nget a\n")
	g.Input(strings.Repeat(strings.Repeat("x", 5000)+"\n", many/100))
	if grown := heap() - before; grown > 1<<17 {
		t.Errorf("%d requests that are refused take %d bytes", g.Pending(), grown)
	}
	for range many {
		g.Input("put a " + strings.Repeat("1", 64) + "\n")
	}
	if held := heap() - before; held < many*64 {
		t.Errorf("%d requests take %d bytes: what is measured?", g.Pending(), held)
	}
	g.Input("get b\nx\n")
	g.Deliver(dataOf(0, 1, s1))
	if left := heap() - before; g.Pending() != 2 || left > many*32 { // the queue's room may stay, as long as something is queued
		t.Errorf("%d bytes are left, %d requests are pending", left, g.Pending())
	}
	g.Deliver(dataOf(0, 2, s1))
	if left := heap() - before; g.Pending() != 0 || left > 1<<15 {
		t.Errorf("%d bytes are left, %d requests are pending", left, g.Pending())
	}
	runtime.KeepAlive(g)
}
