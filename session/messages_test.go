package session

import (
	"testing"

	"tidemark/api"
	"tidemark/token"
)

// change is one thing that is other in a message than it should be.
type change struct {
	what string
	lay  func(*api.Msg)
}

// changes are those that spoil a message of any kind.
func changes() []change {
	return []change{
		{"Kind above", func(m *api.Msg) { m.Kind++ }},
		{"Kind below", func(m *api.Msg) { m.Kind-- }},
		{"no Kind", func(m *api.Msg) { m.Kind = 0 }},
		{"another Kind", func(m *api.Msg) { m.Kind = 99 }},
		{"From no shard", func(m *api.Msg) { m.From = 9 }},
		{"From a client", func(m *api.Msg) { m.From = 2 }},
		{"From the last number", func(m *api.Msg) { m.From = topNumber }},
		{"To another client", func(m *api.Msg) { m.To = 3 }},
		{"To a shard", func(m *api.Msg) { m.To = 0 }},
		{"To 2 and more", func(m *api.Msg) { m.To += 1 << 16 }},
		{"Op above", func(m *api.Msg) { m.Op++ }},
		{"Op below", func(m *api.Msg) { m.Op-- }},
		{"Client", func(m *api.Msg) { m.Txn.Client++ }},
		{"Seq above", func(m *api.Msg) { m.Txn.Seq++ }},
		{"Seq below", func(m *api.Msg) { m.Txn.Seq-- }},
		{"Home", func(m *api.Msg) { m.Home ^= 1 }},
		{"reads", func(m *api.Msg) { m.Reads = []api.Span{{}} }},
		{"writes", func(m *api.Msg) { m.Writes = []api.Write{{Key: "a"}} }},
		{"a Status that is none", func(m *api.Msg) { m.Status = api.ErrArg }},
		{"an Outcome that is none", func(m *api.Msg) { m.Outcome += 3 }},
	}
}

// spoilt hands a message in with each of the changes.
func (c client) spoilt(m api.Msg, more ...change) {
	c.t.Helper()
	m.To = c.s.node
	for _, spoil := range append(changes(), more...) {
		other := m
		spoil.lay(&other)
		before := picture(c.s)
		out, answers := c.s.Deliver(other)
		if len(out) != 0 || len(answers) != 0 || picture(c.s) != before {
			c.t.Errorf("%s: Deliver(%+v) brings %+v, %+v, and changes\n%s into\n%s", spoil.what, other, out, answers, before, picture(c.s))
		}
	}
}

func status(e api.Errno) change {
	return change{"another Status", func(m *api.Msg) { m.Status = e }}
}

func when(what string, a api.Stamp) change {
	return change{what, func(m *api.Msg) { m.At = a }}
}

func found(what string, texts ...string) change {
	return change{what, func(m *api.Msg) { m.Pairs = pairs(texts...) }}
}

// everything gives a message of each kind that might be about the transaction {2, 1}, from each node.
func everything() []api.Msg {
	var list []api.Msg
	for from := range uint32(5) {
		for kind := api.MsgRead; kind <= api.MsgTell; kind++ {
			m := api.Msg{Kind: kind, From: from, To: 2, Txn: t1, At: at(9, 0, 0)}
			switch kind {
			case api.MsgRead:
				m.Txn, m.Op, m.Reads = nobody, 1, []api.Span{{}}
			case api.MsgData:
				m.Txn, m.Op, m.At = nobody, 1, s1
			case api.MsgPrepare:
				m.Reads = []api.Span{{}}
			case api.MsgDone, api.MsgDecide, api.MsgTell:
				m.Outcome = api.Committed
			case api.MsgQuery:
				m.At = zero
			}
			list = append(list, m)
		}
	}
	return list
}

// P16.8: where nothing waits, no message does anything.
func TestMessagesToNobody(t *testing.T) {
	c := fresh(t, 2, config())
	passAll := func() {
		t.Helper()
		for _, m := range everything() {
			c.passesAsItIs(m)
		}
	}
	passAll()
	c.now(begin, api.OK, t1, s1)
	passAll()
	c.now(put("a", "1"), api.OK, t1, s1)
	passAll()
	c.now(abort, api.OK, t1, s1)
	passAll()
}

// P16.8: while something waits, the messages for something else do nothing.
func TestMessagesForSomethingElse(t *testing.T) {
	c := begun(t)
	passBut := func(kind api.Kind) {
		t.Helper()
		for _, m := range everything() {
			if m.Kind != kind {
				c.passesAsItIs(m)
			}
		}
	}
	c.now(put("a", "1"), api.OK, t1, s1)
	c.now(put("n", "1"), api.OK, t1, s1)
	c.later(get("a"), readOf(0, 1, s1, "a", "a\x00"))
	passBut(api.MsgData)
	c.gives(dataOf(0, 1, s1), pairs("a=1")...)
	c.later(commit, prepareOf(0, t1, 0, s1, []api.Span{point("a")}, api.Write{Key: "a", Value: "1"}), prepareOf(1, t1, 0, s1, nil, api.Write{Key: "n", Value: "1"}))
	passBut(api.MsgVote)
	c.takes(yes(0, t1, 0, at(9, 0, 0)))
	passBut(api.MsgVote)
	c.takes(yes(1, t1, 0, at(8, 0, 0)), commitOf(t1, 0, at(9, 0, 0)))
	passBut(api.MsgDone)
	c.ends(doneOf(t1, 0, at(9, 0, 0)), api.Answer{At: at(9, 0, 0), Token: token.Encode(at(9, 0, 0))}, decideOf(1, t1, 0, api.Committed, at(9, 0, 0)))
	passBut(0)
}

// P16.9: which Data counts.
func TestDataThatDoesNotCount(t *testing.T) {
	c := begun(t)
	c.reads("a")
	c.later(scan("c", "p"), readOf(0, 2, s1, "c", "m"), readOf(1, 2, s1, "m", "p"))
	outside := []change{
		when("At below", at(0, 0, 2)), when("At above", at(0, 2, 2)), when("At of another node", at(0, 1, 3)), when("At of another wall", at(1, 1, 2)), when("no At", zero),
		status(api.ErrBusy), status(api.ErrStale), // with pairs
		{"From the other one", func(m *api.Msg) { m.From ^= 1 }},
		found("a key below", "b=1"), found("the last key below", "b\xff=1"), found("one of them below", "b=1", "c=1", "lzz=2", "m=1"), found("a key above", "z=1"), found("the other part's and its own", "l=1", "m=1"),
		found("the bound above", "p=1", "q=1"), found("the keys fall", "l=1", "k=1"), found("a key twice", "n=1", "n=2"), found("no key", "=1"),
	}
	c.passes(api.Msg{Kind: api.MsgRead, From: 0, Op: 2, At: s1, Reads: []api.Span{{Lo: "c", Hi: "m"}}}) // its own, come back
	c.spoilt(dataOf(0, 2, s1, "c=1", "l\xff=1"), append(outside, found("the part's bound", "m=1"))...)
	c.spoilt(dataOf(1, 2, s1, "m=1", "o=1"), append(outside, found("the bound", "p=1"), found("just below", "lz=1"))...)
	c.takes(dataOf(0, 2, s1, "c=1", "l\xff=1"))
	c.spoilt(dataOf(1, 2, s1, "m=1", "o=1"), outside...)
	c.passes(dataOf(0, 2, s1, "c=2"))
	c.passes(noData(0, 2, s1, api.ErrBusy))
	c.passes(dataOf(0, 1, s1))
	c.gives(dataOf(1, 2, s1, "m=1", "o=1"), pairs("c=1", "l\xff=1", "m=1", "o=1")...)
	c.passes(dataOf(1, 2, s1, "m=1", "o=1"))
}

// P16.9: a Data for a get that has another key, or more than one.
func TestDataForAGet(t *testing.T) {
	c := begun(t)
	c.later(get("b"), readOf(0, 1, s1, "b", "b\x00"))
	for _, texts := range [][]string{{"a=1"}, {"b\x00=1"}, {"bb=1"}, {"b=1", "b\x00=1"}, {"a=1", "b=1"}} {
		c.passes(dataOf(0, 1, s1, texts...))
	}
	c.passes(dataOf(1, 1, s1, "b=1"))
	c.gives(dataOf(0, 1, s1, "b="), pairs("b=")...)
}

// P16.9: an error answers the read at once, whatever is there already; the transaction goes on.
func TestDataWithAnError(t *testing.T) {
	for _, e := range []api.Errno{api.ErrExhausted, api.ErrFull, api.ErrOld, api.ErrBusy, api.ErrMany} {
		for first := range uint32(2) {
			c := begun(t)
			c.later(scan("c", "p"), readOf(0, 1, s1, "c", "m"), readOf(1, 1, s1, "m", "p"))
			c.ends(noData(first, 1, s1, e), api.Answer{Status: e, At: s1})
			c.passes(noData(1-first, 1, s1, e))
			c.wantTick()
			c.later(scan("c", "p"), readOf(0, 2, s1, "c", "m"), readOf(1, 2, s1, "m", "p"))
			c.takes(map[uint32]api.Msg{0: dataOf(0, 2, s1, "d=1"), 1: dataOf(1, 2, s1, "o=1")}[first])
			c.ends(noData(1-first, 2, s1, e), api.Answer{Status: e, At: s1})
			c.wantOpen(t1, s1)
			c.now(put("a", "1"), api.OK, t1, s1)
			c.later(commit, prepareOf(0, t1, 0, s1, nil, api.Write{Key: "a", Value: "1"}))
		}
	}
}

// P16.9: the transaction's own writes are laid over what comes back.
func TestOwnWrites(t *testing.T) {
	c := begun(t)
	for _, op := range []api.Op{put("a", "A"), put("c", "C"), del("d"), del("e"), put("m", "M"), put("n", ""), put("z", "Z"), del("y"), put("y", "Y"), put("x", "X"), del("x")} {
		c.now(op, api.OK, t1, s1)
	}
	for i, read := range []struct {
		op        api.Op
		zero, one []string // what the shards have
		want      []string
	}{
		{op: scan("", ""), want: []string{"a=A", "c=C", "m=M", "n=", "y=Y", "z=Z"}},
		{op: scan("", ""), zero: []string{"\x00=0", "a=0", "b=0", "c=0", "d=0", "l=0"}, one: []string{"m=1", "o=1", "x=1", "y=1", "zz=1"}, want: []string{"\x00=0", "a=A", "b=0", "c=C", "l=0", "m=M", "n=", "o=1", "y=Y", "z=Z", "zz=1"}},
		{op: scan("b", "n"), zero: []string{"d=0", "e=0"}, want: []string{"c=C", "m=M"}},
		{op: scan("c", "z"), zero: []string{"c=0"}, one: []string{"x=1"}, want: []string{"c=C", "m=M", "n=", "y=Y"}},
		{op: scan("c\x00", "m\x00"), zero: []string{"d=0"}, one: []string{"m=1"}, want: []string{"m=M"}},
		{op: scan("d", "x\x00"), zero: []string{"d=0", "e=0"}, one: []string{"x=1"}, want: []string{"m=M", "n="}},
	} {
		n := uint32(i + 1)
		c.later(read.op, readOf(0, n, s1, read.op.Key, "m"), readOf(1, n, s1, "m", read.op.Hi))
		c.takes(dataOf(1, n, s1, read.one...))
		c.gives(dataOf(0, n, s1, read.zero...), pairs(read.want...)...)
	}
	for i, read := range []struct{ key, have, want string }{{"a", "", "a=A"}, {"a", "a=0", "a=A"}, {"d", "", ""}, {"d", "d=0", ""}, {"b", "b=0", "b=0"}, {"b", "", ""}} {
		n := uint32(i + 7)
		var have, want []string
		if read.have != "" {
			have = []string{read.have}
		}
		if read.want != "" {
			want = []string{read.want}
		}
		c.later(get(read.key), readOf(0, n, s1, read.key, read.key+"\x00"))
		c.gives(dataOf(0, n, s1, have...), pairs(want...)...)
	}
}

// P16.9: a scan's order and limit.
func TestOrderAndLimit(t *testing.T) {
	c := begun(t)
	c.now(put("c", "C"), api.OK, t1, s1)
	c.now(del("b"), api.OK, t1, s1)
	c.now(put("p", "P"), api.OK, t1, s1)
	rising := pairs("a=0", "c=C", "d=0", "n=1", "p=P")
	falling := pairs("p=P", "n=1", "d=0", "c=C", "a=0")
	n := uint32(0)
	for _, back := range []bool{false, true} {
		all := rising
		if back {
			all = falling
		}
		for _, limit := range []int{0, 1, 2, 3, 4, 5, 6, 7, maxPairs, maxPairs + 1, 1<<63 - 1} {
			n++
			want := all
			if limit > 0 && limit < len(all) {
				want = all[:limit]
			}
			c.later(api.Op{Kind: api.OpScan, Key: "a", Hi: "q", Limit: limit, Back: back}, readOf(0, n, s1, "a", "m"), readOf(1, n, s1, "m", "q"))
			c.takes(dataOf(1, n, s1, "n=1", "p=1"))
			c.gives(dataOf(0, n, s1, "a=0", "b=0", "d=0"), want...)
		}
	}
	// Whatever the limit was, it was one span.
	c.later(commit,
		prepareOf(0, t1, 0, s1, []api.Span{{Lo: "a", Hi: "m"}}, api.Write{Key: "b", Delete: true}, api.Write{Key: "c", Value: "C"}),
		prepareOf(1, t1, 0, s1, []api.Span{{Lo: "m", Hi: "q"}}, api.Write{Key: "p", Value: "P"}))
}

// many gives pairs under so many keys with a letter ahead.
func many(letter string, n int) []string {
	var texts []string
	for i := range n {
		texts = append(texts, letter+key(i)+"=1")
	}
	return texts
}

// P16.9: more than MaxPairs pairs, when the own writes are laid over them, are too many, whatever the limit.
func TestTooManyPairs(t *testing.T) {
	for _, try := range []struct {
		zero, one int
		ops       []api.Op
		limit     int
		want      int // 0: too many
	}{
		{256, 256, nil, 0, maxPairs},
		{256, 257, nil, 0, 0},
		{0, 512, nil, 0, maxPairs},
		{1, 512, nil, 0, 0},
		{512, 512, nil, 0, 0},
		{256, 257, nil, 1, 0},
		{256, 256, nil, 1, 1},
		{256, 256, []api.Op{put("a", "1")}, 0, 0},
		{256, 256, []api.Op{put("a", "1"), del("z" + key(0))}, 0, maxPairs},
		{256, 257, []api.Op{del("b" + key(9))}, 0, maxPairs},
		{256, 257, []api.Op{del("b"), put("b"+key(9), "2")}, 0, 0},
	} {
		c := begun(t)
		for _, op := range try.ops {
			c.now(op, api.OK, t1, s1)
		}
		c.later(api.Op{Kind: api.OpScan, Limit: try.limit}, readOf(0, 1, s1, "", "m"), readOf(1, 1, s1, "m", ""))
		c.takes(dataOf(0, 1, s1, many("b", try.zero)...))
		last := dataOf(1, 1, s1, many("z", try.one)...)
		last.To = 2
		_, answers := c.s.Deliver(last)
		if len(answers) != 1 || len(answers[0].Pairs) != try.want || (answers[0].Status == api.OK) != (try.want > 0) || (answers[0].Status == api.ErrMany) != (try.want == 0) {
			t.Errorf("%+v: %d answers, the first %v with %d pairs", try, len(answers), answers[0].Status, len(answers[0].Pairs))
		}
		if reads := len(c.s.open.reads); (reads == 1) != (try.want > 0) {
			t.Errorf("%+v: %d spans in the footprint", try, reads)
		}
		if _, waits := c.s.Waiting(); waits {
			t.Errorf("%+v: it waits still", try)
		}
	}
}

// asked has the commit of a = 1 and z = 1 wait for its votes.
func asked(t *testing.T) client {
	t.Helper()
	c := begun(t)
	c.now(put("z", "1"), api.OK, t1, s1)
	c.now(put("a", "1"), api.OK, t1, s1)
	c.later(commit, prepareOf(0, t1, 0, s1, nil, api.Write{Key: "a", Value: "1"}), prepareOf(1, t1, 0, s1, nil, api.Write{Key: "z", Value: "1"}))
	return c
}

// P16.10: which Vote counts.
func TestVoteThatDoesNotCount(t *testing.T) {
	c := asked(t)
	wrong := []change{
		when("the start stamp", s1), when("below it", at(0, 1, 1)), when("below it", at(0, 0, 9)), when("no stamp", zero), when("the last wall", at(topWall, 0, 0)), when("the last stamp", at(topWall, topNumber, topNumber)),
		status(api.ErrConflict), // with a stamp
		status(api.ErrBusy), found("pairs", "a=1"),
	}
	c.spoilt(yes(0, t1, 0, at(7, 0, 0)), wrong...)
	c.spoilt(yes(1, t1, 0, at(7, 0, 0)), wrong...)
	c.spoilt(no(1, t1, 0, api.ErrConflict), when("a stamp", at(7, 0, 0)), status(api.ErrBusy))
	c.takes(yes(1, t1, 0, at(0, 1, 3)))
	c.spoilt(yes(0, t1, 0, at(7, 0, 0)), wrong...)
	c.spoilt(no(0, t1, 0, api.ErrStale), when("a stamp", at(7, 0, 0)), status(api.ErrMany))
	for _, late := range []api.Msg{yes(1, t1, 0, at(9, 0, 1)), yes(1, t1, 0, at(0, 1, 3)), no(1, t1, 0, api.ErrConflict)} {
		c.passes(late)
	}
	c.takes(yes(0, t1, 0, at(topWall-1, topNumber, topNumber)), commitOf(t1, 0, at(topWall-1, topNumber, topNumber)))
}

// P16.10: a no answers the commit, and all participants are told, whoever has voted.
func TestVoteNo(t *testing.T) {
	for _, e := range []api.Errno{api.ErrExhausted, api.ErrFull, api.ErrOld, api.ErrConflict, api.ErrStale, api.ErrAborted} {
		for first := range uint32(2) {
			for _, other := range []bool{false, true} {
				c := asked(t)
				if other {
					c.takes(yes(1-first, t1, 0, at(7, 0, 0)))
				}
				c.ends(no(first, t1, 0, e), api.Answer{Status: e}, decideOf(0, t1, 0, api.Aborted, zero), decideOf(1, t1, 0, api.Aborted, zero))
				c.wantClosed()
				c.wantToken("")
				c.wantTick()
				c.passes(no(first, t1, 0, e))
				c.passes(yes(1-first, t1, 0, at(7, 0, 0)))
				c.now(begin, api.OK, t2, at(0, 2, 2))
				c.later(get("a"), readOf(0, 1, at(0, 2, 2), "a", "a\x00"))
				c.gives(dataOf(0, 1, at(0, 2, 2)))
			}
		}
	}
}

// P16.10: the commit stamp is the greatest, whichever comes first.
func TestGreatestVote(t *testing.T) {
	stamps := []api.Stamp{at(0, 1, 3), at(0, 2, 0), at(7, 0, 0), at(7, 0, 1), at(7, 1, 0), at(8, 0, 0), at(1<<63, 0, 0), at(topWall-1, 0, 0)}
	for i, a := range stamps {
		for j, b := range stamps {
			c := asked(t)
			c.takes(yes(1, t1, 0, a))
			c.takes(yes(0, t1, 0, b), commitOf(t1, 0, stamps[max(i, j)]))
		}
	}
}

// decided has the commit of a = 1 and z = 1 wait for the home, at 7.0.1.
func decided(t *testing.T) client {
	t.Helper()
	c := asked(t)
	c.takes(yes(1, t1, 0, at(7, 0, 1)))
	c.takes(yes(0, t1, 0, at(3, 0, 0)), commitOf(t1, 0, at(7, 0, 1)))
	return c
}

// P16.11: which Done counts.
func TestDoneThatDoesNotCount(t *testing.T) {
	wrong := []change{
		{"From the other one", func(m *api.Msg) { m.From = 1 }},
		when("above", at(7, 0, 2)), when("below", at(7, 0, 0)), when("its own vote", at(3, 0, 0)), when("no stamp", zero), when("the last wall", at(topWall, 0, 1)),
		{"no outcome", func(m *api.Msg) { m.Outcome = api.Unknown }},
		{"aborted at a stamp", func(m *api.Msg) { m.Outcome, m.At = api.Aborted, at(7, 0, 1) }},
	}
	c := decided(t)
	c.spoilt(doneOf(t1, 0, at(7, 0, 1)), wrong...)
	c.spoilt(notDone(t1, 0), wrong[0])
	c.passes(no(0, t1, 0, api.ErrConflict))
	c.passes(yes(0, t1, 0, at(9, 0, 0)))
	c.wantTick(commitOf(t1, 0, at(7, 0, 1)))
	c.wantWaiting(commit)
	c.ends(doneOf(t1, 0, at(7, 0, 1)), api.Answer{At: at(7, 0, 1), Token: token.Encode(at(7, 0, 1))}, decideOf(1, t1, 0, api.Committed, at(7, 0, 1)))
	c.passes(doneOf(t1, 0, at(7, 0, 1)))
	c.passes(notDone(t1, 0))
}

// P16.11, P16.17: a commit that is done is told to all but the home; the clock is above it from then on.
func TestDoneCommitted(t *testing.T) {
	c := decided(t)
	c.ends(doneOf(t1, 0, at(7, 0, 1)), api.Answer{At: at(7, 0, 1), Token: token.Encode(at(7, 0, 1))}, decideOf(1, t1, 0, api.Committed, at(7, 0, 1)))
	c.wantClosed()
	c.wantToken(token.Encode(at(7, 0, 1)))
	c.wantTick()
	c.now(begin, api.OK, t2, at(7, 1, 2))
	c.later(get("a"), readOf(0, 1, at(7, 1, 2), "a", "a\x00"))
	c.gives(dataOf(0, 1, at(7, 1, 2)))
}

// P16.11: an abort of the home is told to all but the home; the last token and the clock stay.
func TestDoneAborted(t *testing.T) {
	c := decided(t)
	c.s.token = "before"
	c.ends(notDone(t1, 0), api.Answer{Status: api.ErrAborted}, decideOf(1, t1, 0, api.Aborted, zero))
	c.wantClosed()
	c.wantToken("before")
	c.wantTick()
	c.now(begin, api.OK, t2, at(0, 2, 2))
}

// P16.11: a home that is alone has nobody else to be told.
func TestDoneOfOneShard(t *testing.T) {
	for _, home := range []uint32{0, 1} {
		for _, done := range []bool{false, true} {
			c := begun(t)
			w := api.Write{Key: []string{"a", "z"}[home], Delete: true}
			c.now(del(w.Key), api.OK, t1, s1)
			c.later(commit, prepareOf(home, t1, home, s1, nil, w))
			c.passes(yes(1-home, t1, home, at(4, 0, 0)))
			c.takes(yes(home, t1, home, at(4, 0, home)), commitOf(t1, home, at(4, 0, home)))
			if done {
				c.ends(doneOf(t1, home, at(4, 0, home)), api.Answer{At: at(4, 0, home), Token: token.Encode(at(4, 0, home))})
			} else {
				c.ends(notDone(t1, home), api.Answer{Status: api.ErrAborted})
			}
		}
	}
}
