package audit

import (
	"slices"
	"strings"
	"testing"

	"tidemark/api"
	"tidemark/token"
)

var (
	sa = api.Stamp{Wall: 1, Node: 9}
	sb = api.Stamp{Wall: 2, Node: 9}
	sc = api.Stamp{Wall: 3, Node: 9}
	tt = api.Txn{Client: 5, Seq: 1}
	uu = api.Txn{Client: 5, Seq: 2}
)

func event(txn api.Txn, op api.Op, status api.Errno, at api.Stamp) api.Event {
	return api.Event{Answer: api.Answer{Txn: txn, Op: op, Status: status, At: at}}
}

func begins(txn api.Txn, at api.Stamp, text string) api.Event {
	return event(txn, api.Op{Kind: api.OpBegin, Token: text}, api.OK, at)
}

func beginsAsOf(txn api.Txn, at api.Stamp, text string) api.Event {
	return event(txn, api.Op{Kind: api.OpBegin, Token: text, ReadOnly: true, AsOf: true}, api.OK, at)
}

func puts(txn api.Txn, key, value string) api.Event {
	return event(txn, api.Op{Kind: api.OpPut, Key: key, Value: value}, api.OK, sa)
}

func deletes(txn api.Txn, key string) api.Event {
	return event(txn, api.Op{Kind: api.OpDelete, Key: key}, api.OK, sa)
}

// read gives a read event with the pairs "k v k v ...".
func read(txn api.Txn, op api.Op, at api.Stamp, told string) api.Event {
	e := event(txn, op, api.OK, at)
	e.Answer.Pairs = pairsOf(told)
	return e
}

func gets(txn api.Txn, key string, at api.Stamp, told string) api.Event {
	return read(txn, api.Op{Kind: api.OpGet, Key: key}, at, told)
}

func scans(txn api.Txn, lo, hi string, at api.Stamp, told string) api.Event {
	return read(txn, api.Op{Kind: api.OpScan, Key: lo, Hi: hi}, at, told)
}

// commits gives a commit that was answered, with its token if it is OK.
func commits(txn api.Txn, status api.Errno, at api.Stamp) api.Event {
	e := event(txn, api.Op{Kind: api.OpCommit}, status, at)
	if status == api.OK {
		e.Answer.Token = token.Encode(at)
	}
	return e
}

func aborts(txn api.Txn, status api.Errno) api.Event {
	return event(txn, api.Op{Kind: api.OpAbort}, status, sa)
}

func entry(txn api.Txn, at api.Stamp) api.Entry {
	return api.Entry{Txn: txn, Outcome: api.Committed, At: at}
}

func result(events []api.Event, list ...api.Entry) api.Result {
	return api.Result{Events: events, Commits: list}
}

func pairsOf(told string) []api.Pair {
	fields := strings.Fields(told)
	var list []api.Pair
	for i := 0; i+1 < len(fields); i += 2 {
		list = append(list, api.Pair{Key: fields[i], Value: fields[i+1]})
	}
	return list
}

func wantState(t *testing.T, what string, r api.Result, s api.Span, at api.Stamp, told string) {
	t.Helper()
	if got := State(r, s, at); !slices.Equal(got, pairsOf(told)) {
		t.Errorf("%s: State at %v of %q is %q, want %q", what, at, s, got, told)
	}
}

func wantCheck(t *testing.T, what string, r api.Result, wrong api.Errno, place int) {
	t.Helper()
	if e, i := Check(r); e != wrong || i != place {
		t.Errorf("%s: Check says %d, %d; want %d, %d", what, e, i, wrong, place)
	}
}

// The chapter's examples, 1 to 9.
func TestExamples(t *testing.T) {
	one := result([]api.Event{puts(tt, "k", "1")}, entry(tt, sb))
	wantState(t, "1", one, api.Span{}, sa, "")
	wantState(t, "1", one, api.Span{}, sb, "k 1")
	wantState(t, "1", one, api.Span{}, sc, "k 1")
	wantCheck(t, "1", one, api.OK, 0)
	and := func(e api.Event) api.Result { return result(append(slices.Clone(one.Events), e), one.Commits...) }
	wantCheck(t, "2", and(gets(uu, "k", sc, "k 1")), api.OK, 0)
	wantCheck(t, "2", and(gets(uu, "k", sc, "")), api.ErrSnapshot, 1)
	wantCheck(t, "3", and(gets(uu, "k", sa, "")), api.OK, 0)
	wantCheck(t, "4", result(nil, entry(tt, sb), entry(uu, sb)), api.ErrTwin, 1)
	wantCheck(t, "5", result([]api.Event{commits(tt, api.ErrConflict, api.Stamp{})}, entry(tt, sb)), api.ErrGhost, 0)
	wantCheck(t, "6", result([]api.Event{puts(tt, "k", "1"), commits(tt, api.OK, sb)}), api.ErrLost, 1)
	wantCheck(t, "7", result([]api.Event{gets(uu, "k", sa, ""), puts(tt, "k", "1")}, entry(tt, sb), entry(uu, sc)), api.ErrSerial, 0)
	wantCheck(t, "8", result([]api.Event{begins(uu, sa, token.Encode(sb))}), api.ErrCause, 0)
	wantCheck(t, "9", result([]api.Event{puts(uu, "k", "7"), gets(uu, "k", sa, "k 7")}), api.OK, 0)
}

// P18.1: the last write of each key, by key; what is no write event of the transaction does not count.
func TestWrites(t *testing.T) {
	long := strings.Repeat("\xff", 100)
	failed, other := puts(tt, "k", "no"), puts(tt, "k", "no")
	failed.Answer.Status = api.ErrReadOnly
	other.Answer.Op.Kind = 8
	twice := deletes(tt, "d")
	twice.Answer.Op.Value = "of a deletion"
	back := puts(tt, "e", "5")
	r := result([]api.Event{
		puts(tt, "k", "1"), puts(tt, "b", "2"), puts(uu, "k", "3"), puts(tt, "k", "4"),
		puts(tt, "d", "x"), twice, deletes(tt, "e"), back,
		puts(tt, "", ""), puts(tt, long, long), puts(tt, "k\x00", "z"),
		failed, other, gets(tt, "g", sa, ""), scans(tt, "s", "", sa, ""), commits(tt, api.OK, sb), begins(tt, sa, ""), aborts(tt, api.OK),
	}, entry(uu, sb))
	want := []api.Write{
		{Key: ""}, {Key: "b", Value: "2"}, {Key: "d", Delete: true}, {Key: "e", Value: "5"},
		{Key: "k", Value: "4"}, {Key: "k\x00", Value: "z"}, {Key: long, Value: long},
	}
	if got := Writes(r, tt); !slices.Equal(got, want) {
		t.Errorf("Writes are %v, want %v", got, want)
	}
	if got := Writes(r, uu); !slices.Equal(got, []api.Write{{Key: "k", Value: "3"}}) {
		t.Errorf("Writes of another one are %v", got)
	}
	for _, none := range []api.Txn{{}, {Client: 5, Seq: 3}, {Client: 1, Seq: 5}} {
		if got := Writes(r, none); len(got) != 0 {
			t.Errorf("Writes of %v are %v", none, got)
		}
	}
}

// P18.2: which commits count, and in which order.
func TestStateLaysTheCommitsInOrder(t *testing.T) {
	late, early := api.Txn{Client: 6, Seq: 1}, api.Txn{Client: 4, Seq: 9}
	events := []api.Event{puts(uu, "k", "u"), puts(tt, "k", "t"), puts(late, "k", "late"), puts(early, "k", "early"), puts(tt, "x", "t"), deletes(uu, "x")}
	cases := []struct {
		what string
		list []api.Entry
		at   api.Stamp
		want string
	}{
		{"none", nil, sc, ""},
		{"by stamp, whatever the list's order", []api.Entry{entry(uu, sb), entry(tt, sa)}, sb, "k u"},
		{"by stamp, not by transaction", []api.Entry{entry(tt, sb), entry(uu, sa)}, sb, "k t x t"},
		{"up to the stamp", []api.Entry{entry(uu, sb), entry(tt, sa)}, sa, "k t x t"},
		{"one stamp: by client", []api.Entry{entry(late, sb), entry(early, sb), entry(tt, sb)}, sb, "k late x t"},
		{"one stamp and one client: by count", []api.Entry{entry(uu, sb), entry(tt, sb)}, sc, "k u"},
		{"one transaction twice", []api.Entry{entry(tt, sa), entry(uu, sb), entry(tt, sc)}, sc, "k t x t"},
		{"one transaction twice, between", []api.Entry{entry(tt, sc), entry(tt, sa), entry(uu, sb)}, sb, "k u"},
		{"one that was aborted", []api.Entry{entry(tt, sa), {Txn: uu, Outcome: api.Aborted, At: sb}}, sc, "k t x t"},
		{"one that is unknown", []api.Entry{entry(tt, sa), {Txn: uu, At: sb}}, sc, "k t x t"},
		{"one with a made-up outcome", []api.Entry{entry(tt, sa), {Txn: uu, Outcome: 3, At: sb}}, sc, "k t x t"},
		{"one without events", []api.Entry{entry(tt, sa), entry(api.Txn{Client: 9, Seq: 9}, sb)}, sc, "k t x t"},
		{"at the zero stamp", []api.Entry{entry(tt, api.Stamp{})}, api.Stamp{}, "k t x t"},
		{"at the top", []api.Entry{entry(tt, api.Stamp{Wall: api.TopWall, Logical: api.TopLogical, Node: 1<<32 - 1})}, api.Stamp{Wall: api.TopWall, Logical: api.TopLogical, Node: 1<<32 - 1}, "k t x t"},
		{"by the node", []api.Entry{entry(tt, sb)}, api.Stamp{Wall: 2, Node: 8}, ""},
		{"by the logical number", []api.Entry{entry(tt, api.Stamp{Wall: 2, Logical: 1})}, api.Stamp{Wall: 2, Node: 9}, ""},
	}
	for _, c := range cases {
		wantState(t, c.what, result(events, c.list...), api.Span{}, c.at, c.want)
	}
}

// P18.2: the pairs of a span, whatever its bounds are.
func TestStateOfASpan(t *testing.T) {
	r := result([]api.Event{puts(tt, "c", "3"), puts(tt, "a", "1"), puts(tt, "b", "2"), puts(tt, "b\x00", "x")}, entry(tt, sb))
	cases := []struct{ lo, hi, want string }{
		{"", "", "a 1 b 2 b\x00 x c 3"},
		{"b", "", "b 2 b\x00 x c 3"},
		{"", "b", "a 1"},
		{"b", "b\x00", "b 2"},
		{"a\x00", "c", "b 2 b\x00 x"},
		{"a", "c", "a 1 b 2 b\x00 x"},
		{"c", "a", ""},
		{"b", "b", ""},
		{"d", "", ""},
		{"", "a", ""},
		{strings.Repeat("a", 200), strings.Repeat("c", 200), "b 2 b\x00 x c 3"},
	}
	for _, c := range cases {
		wantState(t, "a span", r, api.Span{Lo: c.lo, Hi: c.hi}, sb, c.want)
	}
	empty := result([]api.Event{puts(tt, "", "e"), puts(tt, "a", "1")}, entry(tt, sb))
	if got := State(empty, api.Span{}, sb); !slices.Equal(got, []api.Pair{{Key: "", Value: "e"}, {Key: "a", Value: "1"}}) {
		t.Errorf("with the empty key: %q", got)
	}
	if got := State(empty, api.Span{Lo: "\x00"}, sb); !slices.Equal(got, []api.Pair{{Key: "a", Value: "1"}}) {
		t.Errorf("behind the empty key: %q", got)
	}
}

// P18.4: the first entry that has a twin ahead of it.
func TestTwins(t *testing.T) {
	third := api.Txn{Client: 5, Seq: 3}
	ghost := []api.Event{aborts(tt, api.OK)}
	cases := []struct {
		what  string
		list  []api.Entry
		wrong api.Errno
		place int
	}{
		{"none", nil, api.OK, 0},
		{"apart", []api.Entry{entry(tt, sc), entry(uu, sa), entry(third, sb)}, api.OK, 0},
		{"one transaction", []api.Entry{entry(tt, sb), entry(uu, sa), entry(tt, sc)}, api.ErrTwin, 2},
		{"one stamp", []api.Entry{entry(tt, sb), entry(uu, sa), entry(third, sb)}, api.ErrTwin, 2},
		{"both", []api.Entry{entry(tt, sb), entry(tt, sb)}, api.ErrTwin, 1},
		{"the first of several", []api.Entry{entry(tt, sb), entry(uu, sb), entry(tt, sb)}, api.ErrTwin, 1},
		{"an aborted one ahead", []api.Entry{{Txn: tt, Outcome: api.Aborted, At: sb}, entry(tt, sb)}, api.OK, 0},
		{"an unknown one behind", []api.Entry{entry(tt, sb), {Txn: tt, At: sb}}, api.OK, 0},
		{"the places of those that don't count are counted", []api.Entry{{Txn: tt, Outcome: api.Aborted}, entry(tt, sb), {Txn: tt, Outcome: 7}, entry(uu, sb)}, api.ErrTwin, 3},
		{"the zero transaction and the zero stamp", []api.Entry{entry(api.Txn{}, api.Stamp{}), entry(tt, sa)}, api.OK, 0},
		{"another client with that count", []api.Entry{entry(tt, sa), entry(api.Txn{Client: 1, Seq: 5}, sb)}, api.OK, 0},
	}
	for _, c := range cases {
		wantCheck(t, c.what, result(nil, c.list...), c.wrong, c.place)
	}
	wantCheck(t, "ahead of what is wrong with the events", result(ghost, entry(tt, sa), entry(uu, sa)), api.ErrTwin, 1)
}
