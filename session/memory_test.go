package session

import (
	"slices"
	"testing"

	"tidemark/api"
	"tidemark/token"
)

// spoil writes over all lists of messages, spare room included.
func spoil(list []api.Msg) {
	for i := range list {
		m := &list[i]
		fill(m.Reads, api.Span{Lo: "spoilt"})
		fill(m.Writes, api.Write{Key: "spoilt"})
		fill(m.Pairs, api.Pair{Key: "spoilt"})
	}
	fill(list, api.Msg{Kind: 99})
}

func fill[E any](list []E, with E) {
	list = list[:cap(list)]
	for i := range list {
		list[i] = with
	}
}

// roomy gives a list with spare room, in which something stands.
func roomy[E any](list []E, spare E) []E {
	return append(slices.Clone(list), spare, spare)[:len(list)]
}

// Lists: the configuration is not changed, and not kept as it is.
func TestConfigurationIsItsOwn(t *testing.T) {
	conf := three()
	conf.Splits = roomy(conf.Splits, "spare")
	c := fresh(t, 3, conf)
	if !slices.Equal(conf.Splits[:4], []string{"g", "p", "spare", "spare"}) {
		t.Errorf("New changes the configuration: %q", conf.Splits[:4])
	}
	fill(conf.Splits, "a")
	start := at(0, 1, 3)
	c.now(begin, api.OK, api.Txn{Client: 3, Seq: 1}, start)
	c.later(scan("", ""), readOf(0, 1, start, "", "g"), readOf(1, 1, start, "g", "p"), readOf(2, 1, start, "p", ""))
}

// Lists: a message that is handed in is not changed, and not kept as it is.
func TestMessagesInAreNotKept(t *testing.T) {
	c := begun(t)
	c.now(put("b", "B"), api.OK, t1, s1)
	c.later(scan("", ""), readOf(0, 1, s1, "", "m"), readOf(1, 1, s1, "m", ""))
	spare := api.Pair{Key: "spare"}
	parts := []api.Msg{dataOf(0, 1, s1, "a=1", "b=1"), dataOf(1, 1, s1, "x=1", "y=1")}
	for i := range parts {
		parts[i].Pairs = roomy(parts[i].Pairs, spare)
		parts[i].To = 2
	}
	before := slices.Clone(parts[0].Pairs[:4])
	c.takes(parts[0])
	if !slices.Equal(parts[0].Pairs[:4], before) {
		t.Errorf("Deliver changes the pairs to %v", parts[0].Pairs[:4])
	}
	fill(parts[0].Pairs, spare)
	before = slices.Clone(parts[1].Pairs[:4])
	_, answers := c.s.Deliver(parts[1])
	if !slices.Equal(parts[1].Pairs[:4], before) {
		t.Errorf("Deliver changes the pairs to %v", parts[1].Pairs[:4])
	}
	fill(parts[1].Pairs, spare)
	if want := pairs("a=1", "b=B", "x=1", "y=1"); len(answers) != 1 || !slices.Equal(answers[0].Pairs, want) {
		t.Errorf("%+v, want %v", answers, want)
	}
}

// Lists: a scan backwards leaves what was handed in as it was.
func TestMessagesInAreNotTurned(t *testing.T) {
	c := begun(t)
	c.later(api.Op{Kind: api.OpScan, Hi: "m", Back: true, Limit: 2}, readOf(0, 1, s1, "", "m"))
	m := dataOf(0, 1, s1, "a=1", "b=1", "c=1")
	c.gives(m, pairs("c=1", "b=1")...)
	if want := pairs("a=1", "b=1", "c=1"); !slices.Equal(m.Pairs, want) {
		t.Errorf("Deliver changes the pairs to %v", m.Pairs)
	}
}

// Lists: writing into what went out changes nothing of what goes out again.
func TestMessagesOutAreNew(t *testing.T) {
	c := begun(t)
	out, _ := c.s.Do(scan("a", "z"))
	spoil(out)
	for range 2 {
		spoil(c.s.Tick())
		c.wantTick(readOf(0, 1, s1, "a", "m"), readOf(1, 1, s1, "m", "z"))
	}
	c.takes(dataOf(0, 1, s1, "l=1"))
	c.gives(dataOf(1, 1, s1, "m=1"), pairs("l=1", "m=1")...)
	c.reads("b")
	for _, key := range []string{"a", "b", "n", "o"} {
		c.now(put(key, "1"), api.OK, t1, s1)
	}
	writes := func(keys ...string) (list []api.Write) {
		for _, key := range keys {
			list = append(list, api.Write{Key: key, Value: "1"})
		}
		return list
	}
	out, _ = c.s.Do(commit)
	spoil(out[:1:1]) // of one message, with its spare room
	c.wantOut("the other one", out[1:], prepareOf(1, t1, 0, s1, []api.Span{{Lo: "m", Hi: "z"}}, writes("n", "o")...))
	spoil(out)
	for range 2 {
		spoil(c.s.Tick())
		c.wantTick(
			prepareOf(0, t1, 0, s1, []api.Span{{Lo: "a", Hi: "m"}, point("b")}, writes("a", "b")...),
			prepareOf(1, t1, 0, s1, []api.Span{{Lo: "m", Hi: "z"}}, writes("n", "o")...))
	}
	c.takes(yes(0, t1, 0, at(5, 0, 0)))
	out, _ = c.s.Deliver(api.Msg{Kind: api.MsgVote, From: 1, To: 2, Txn: t1, At: at(6, 0, 1)})
	spoil(out)
	spoil(c.s.Tick())
	c.wantTick(commitOf(t1, 0, at(6, 0, 1)))
	c.ends(doneOf(t1, 0, at(6, 0, 1)), api.Answer{At: at(6, 0, 1), Token: token.Encode(at(6, 0, 1))}, decideOf(1, t1, 0, api.Committed, at(6, 0, 1)))
}

// Lists: writing into an answer's pairs, or behind them, changes nothing.
func TestAnswersAreNew(t *testing.T) {
	c := begun(t)
	for _, key := range []string{"a", "b", "c", "d"} {
		c.now(put(key, key), api.OK, t1, s1)
	}
	want := pairs("a=a", "b=b", "c=c", "d=d")
	for n := uint32(1); n < 9; n++ {
		op := scan("", "m")
		op.Limit = int(n % 5)
		c.later(op, readOf(0, n, s1, "", "m"))
		m := dataOf(0, n, s1, "b=0", "bb=0", "e=0")
		m.To = 2
		_, answers := c.s.Deliver(m)
		got := answers[0].Pairs
		if op.Limit > 0 && (len(got) != op.Limit || cap(got) != op.Limit) {
			t.Errorf("the first %d pairs are %d with room for %d", op.Limit, len(got), cap(got))
		}
		fill(got, api.Pair{Key: "spoilt"})
		_, refused := c.s.Do(begin)
		fill(answers, api.Answer{Status: 99})
		fill(refused, api.Answer{Status: 99})
	}
	c.later(scan("", "m"), readOf(0, 9, s1, "", "m"))
	c.gives(dataOf(0, 9, s1), want...)
}

// Objects are apart: two sessions of one configuration share nothing.
func TestSessionsAreApart(t *testing.T) {
	conf := config()
	a, b := fresh(t, 2, conf), fresh(t, 2, conf)
	before := picture(b.s)
	a.s.Clock(9)
	a.now(begin, api.OK, t1, at(9, 0, 2))
	a.now(put("a", "1"), api.OK, t1, at(9, 0, 2))
	a.later(commit, prepareOf(0, t1, 0, at(9, 0, 2), nil, api.Write{Key: "a", Value: "1"}))
	if picture(b.s) != before {
		t.Errorf("what one session does changes another to %s", picture(b.s))
	}
	b.now(begin, api.OK, t1, s1)
}
