package audit

import (
	"testing"

	"tidemark/api"
	"tidemark/token"
)

// told is a result and what Check says of it.
type told struct {
	what   string
	events []api.Event
	list   []api.Entry
	wrong  api.Errno
	place  int
}

func wantTold(t *testing.T, cases []told) {
	t.Helper()
	for _, c := range cases {
		wantCheck(t, c.what, result(c.events, c.list...), c.wrong, c.place)
	}
}

// P18.4, 1: what a begin with a token must be.
func TestBegins(t *testing.T) {
	refused := begins(tt, sa, "x")
	refused.Answer.Status = api.ErrToken
	answered := begins(tt, sa, "")
	answered.Answer.Token = "x" // no field of a begin's: it doesn't count
	asOfAlone := begins(tt, sb, token.Encode(sb))
	asOfAlone.Answer.Op.AsOf = true
	wantTold(t, []told{
		{"without a token", []api.Event{begins(tt, sa, "")}, nil, api.OK, 0},
		{"as of no token", []api.Event{beginsAsOf(tt, sa, "")}, nil, api.OK, 0},
		{"above the token", []api.Event{begins(tt, sc, token.Encode(sb))}, nil, api.OK, 0},
		{"at the token", []api.Event{begins(tt, sb, token.Encode(sb))}, nil, api.ErrCause, 0},
		{"below the token", []api.Event{begins(tt, sa, token.Encode(sb))}, nil, api.ErrCause, 0},
		{"a node below the token", []api.Event{begins(tt, api.Stamp{Wall: 2, Node: 8}, token.Encode(sb))}, nil, api.ErrCause, 0},
		{"as of the token", []api.Event{beginsAsOf(tt, sb, token.Encode(sb))}, nil, api.OK, 0},
		{"as of a token, above it", []api.Event{beginsAsOf(tt, sc, token.Encode(sb))}, nil, api.ErrCause, 0},
		{"as of a token, below it", []api.Event{beginsAsOf(tt, sa, token.Encode(sb))}, nil, api.ErrCause, 0},
		{"as of a token, not read-only", []api.Event{asOfAlone}, nil, api.OK, 0},
		{"no token", []api.Event{begins(tt, sa, "x")}, nil, api.ErrCause, 0},
		{"no token, at the zero stamp", []api.Event{beginsAsOf(tt, api.Stamp{}, "x")}, nil, api.ErrCause, 0},
		{"a token with something behind it", []api.Event{begins(tt, sc, token.Encode(sb)+" ")}, nil, api.ErrCause, 0},
		{"no token, and refused", []api.Event{refused}, nil, api.OK, 0},
		{"a token in the answer", []api.Event{answered}, nil, api.OK, 0},
		{"at a later place", []api.Event{begins(tt, sa, ""), begins(uu, sc, token.Encode(sb)), begins(uu, sa, token.Encode(sb))}, nil, api.ErrCause, 2},
	})
}

// P18.4, 2 and 3: what a commit that was answered OK must be.
func TestCommits(t *testing.T) {
	bare := commits(tt, api.OK, sb)
	bare.Answer.Token = ""
	wrong := commits(tt, api.OK, sb)
	wrong.Answer.Token = token.Encode(sa)
	late := begins(tt, sb, "")
	refused := begins(tt, sc, "")
	refused.Answer.Status = api.ErrOpen
	other := begins(uu, sc, "")
	failed := puts(tt, "k", "1")
	failed.Answer.Status = api.ErrMany
	asked := commits(tt, api.OK, sb)
	asked.Answer.Op.Token = "x" // no field of a commit's operation
	wantTold(t, []told{
		{"right", []api.Event{begins(tt, sa, ""), puts(tt, "k", "1"), commits(tt, api.OK, sb)}, []api.Entry{entry(tt, sb)}, api.OK, 0},
		{"no commit", []api.Event{puts(tt, "k", "1"), commits(tt, api.OK, sb)}, []api.Entry{entry(uu, sb)}, api.ErrLost, 1},
		{"a deletion, and no commit", []api.Event{deletes(tt, "k"), commits(tt, api.OK, sb)}, nil, api.ErrLost, 1},
		{"another stamp", []api.Event{puts(tt, "k", "1"), commits(tt, api.OK, sc)}, []api.Entry{entry(tt, sb)}, api.ErrLost, 1},
		{"only an aborted entry", []api.Event{puts(tt, "k", "1"), commits(tt, api.OK, sb)}, []api.Entry{{Txn: tt, Outcome: api.Aborted, At: sb}}, api.ErrLost, 1},
		{"at the zero stamp, and no commit", []api.Event{puts(tt, "k", "1"), commits(tt, api.OK, api.Stamp{})}, nil, api.ErrLost, 1},
		{"a write behind it counts, too", []api.Event{commits(tt, api.OK, sb), puts(tt, "k", "1")}, nil, api.ErrLost, 0},
		{"nothing written", []api.Event{commits(tt, api.OK, sb)}, nil, api.OK, 0},
		{"nothing written, and another stamp", []api.Event{commits(tt, api.OK, sb)}, []api.Entry{entry(tt, sc)}, api.OK, 0},
		{"only a write that failed", []api.Event{failed, commits(tt, api.OK, sb)}, nil, api.OK, 0},
		{"only another one's write", []api.Event{puts(uu, "k", "1"), commits(tt, api.OK, sb)}, nil, api.OK, 0},

		{"begun at its stamp", []api.Event{late, puts(tt, "k", "1"), commits(tt, api.OK, sb)}, []api.Entry{entry(tt, sb)}, api.ErrCause, 2},
		{"begun above its stamp", []api.Event{begins(tt, sc, ""), puts(tt, "k", "1"), commits(tt, api.OK, sb)}, []api.Entry{entry(tt, sb)}, api.ErrCause, 2},
		{"begun twice, the first one above", []api.Event{begins(tt, sc, ""), begins(tt, sa, ""), puts(tt, "k", "1"), commits(tt, api.OK, sb)}, []api.Entry{entry(tt, sb)}, api.ErrCause, 3},
		{"begun twice, the second one above", []api.Event{begins(tt, sa, ""), begins(tt, sc, ""), puts(tt, "k", "1"), commits(tt, api.OK, sb)}, []api.Entry{entry(tt, sb)}, api.ErrCause, 3},
		{"begun behind it", []api.Event{puts(tt, "k", "1"), commits(tt, api.OK, sb), begins(tt, sc, "")}, []api.Entry{entry(tt, sb)}, api.OK, 0},
		{"another one began above", []api.Event{other, puts(tt, "k", "1"), commits(tt, api.OK, sb)}, []api.Entry{entry(tt, sb)}, api.OK, 0},
		{"a begin that was refused", []api.Event{refused, puts(tt, "k", "1"), commits(tt, api.OK, sb)}, []api.Entry{entry(tt, sb)}, api.OK, 0},
		{"never begun, at the zero stamp", []api.Event{puts(tt, "k", "1"), commits(tt, api.OK, api.Stamp{})}, []api.Entry{entry(tt, api.Stamp{})}, api.OK, 0},
		{"begun above its stamp, and nothing written", []api.Event{begins(tt, sc, ""), commits(tt, api.OK, sb)}, nil, api.OK, 0},

		{"without its token", []api.Event{puts(tt, "k", "1"), bare}, []api.Entry{entry(tt, sb)}, api.ErrCause, 1},
		{"with another token", []api.Event{puts(tt, "k", "1"), wrong}, []api.Entry{entry(tt, sb)}, api.ErrCause, 1},
		{"nothing written, without its token", []api.Event{bare}, nil, api.ErrCause, 0},
		{"nothing written, with another token", []api.Event{wrong}, nil, api.ErrCause, 0},
		{"without its token, and lost", []api.Event{puts(tt, "k", "1"), bare}, nil, api.ErrLost, 1},
		{"with a token asked", []api.Event{asked}, nil, api.OK, 0},
	})
}

// P18.4, 4: what says that a transaction is not committed.
func TestGhosts(t *testing.T) {
	none := api.Stamp{}
	list := []api.Entry{entry(uu, sa), entry(tt, sb)}
	wantTold(t, []told{
		{"refused", []api.Event{commits(tt, api.ErrConflict, none)}, list, api.ErrGhost, 0},
		{"stale", []api.Event{commits(tt, api.ErrStale, none)}, list, api.ErrGhost, 0},
		{"ErrArg", []api.Event{commits(tt, api.ErrArg, none)}, list, api.ErrGhost, 0},
		{"a made-up error", []api.Event{commits(tt, -5, none)}, list, api.ErrGhost, 0},
		{"ErrNone", []api.Event{commits(tt, api.ErrNone, none)}, list, api.OK, 0},
		{"ErrWait", []api.Event{commits(tt, api.ErrWait, none)}, list, api.OK, 0},
		{"refused, and not committed", []api.Event{commits(tt, api.ErrConflict, none)}, list[:1], api.OK, 0},
		{"refused, and aborted", []api.Event{commits(tt, api.ErrConflict, none)}, []api.Entry{{Txn: tt, Outcome: api.Aborted}}, api.OK, 0},
		{"refused, with a wrong token", []api.Event{{Answer: api.Answer{Txn: tt, Op: api.Op{Kind: api.OpCommit}, Status: api.ErrStale, Token: "x"}}}, nil, api.OK, 0},
		{"an abort", []api.Event{aborts(tt, api.OK)}, list, api.ErrGhost, 0},
		{"an abort, and not committed", []api.Event{aborts(tt, api.OK)}, list[:1], api.OK, 0},
		{"an abort that was refused", []api.Event{aborts(tt, api.ErrNone), aborts(tt, api.ErrConflict)}, list, api.OK, 0},
		{"behind others", []api.Event{aborts(api.Txn{Client: 1, Seq: 1}, api.OK), commits(uu, api.ErrNone, none), commits(uu, api.ErrFull, none)}, list, api.ErrGhost, 2},
		{"other kinds", []api.Event{event(tt, api.Op{Kind: api.OpPut}, api.ErrConflict, sa), event(tt, api.Op{}, api.ErrConflict, sa), event(tt, api.Op{Kind: 8}, api.OK, sa), event(tt, api.Op{Kind: -1}, api.OK, sa)}, list, api.OK, 0},
	})
}

// P18.3, P18.4, 5: what a read gives.
func TestReads(t *testing.T) {
	past := []api.Event{puts(tt, "a", "1"), puts(tt, "b", "2"), puts(tt, "c", "3"), puts(tt, "d", "4")}
	scan := func(lo, hi string, limit int, back bool) api.Op {
		return api.Op{Kind: api.OpScan, Key: lo, Hi: hi, Limit: limit, Back: back}
	}
	get := func(key, hi string, limit int, back bool) api.Op {
		return api.Op{Kind: api.OpGet, Key: key, Hi: hi, Limit: limit, Back: back}
	}
	cases := []struct {
		what   string
		before []api.Event // by the one that reads, or others
		op     api.Op
		want   string
	}{
		{"all", nil, scan("", "", 0, false), "a 1 b 2 c 3 d 4"},
		{"falling", nil, scan("", "", 0, true), "d 4 c 3 b 2 a 1"},
		{"a span", nil, scan("b", "d", 0, false), "b 2 c 3"},
		{"a span, falling", nil, scan("b", "d", 0, true), "c 3 b 2"},
		{"the first two", nil, scan("", "", 2, false), "a 1 b 2"},
		{"the last two", nil, scan("", "", 2, true), "d 4 c 3"},
		{"the first of them", nil, scan("b", "", 1, false), "b 2"},
		{"just as many", nil, scan("", "", 4, false), "a 1 b 2 c 3 d 4"},
		{"fewer than the limit", nil, scan("c", "", 1<<62, true), "d 4 c 3"},
		{"a limit below 0", nil, scan("", "", -1, false), "a 1 b 2 c 3 d 4"},
		{"an empty span", nil, scan("b", "b", 0, false), ""},
		{"a span upside down", nil, scan("d", "b", 0, false), ""},
		{"one key", nil, get("b", "", 0, false), "b 2"},
		{"no key", nil, get("bb", "", 0, false), ""},
		{"one key with an upper bound", nil, get("b", "z", 0, false), "b 2"},
		{"one key with a limit", nil, get("b", "", 1, false), "b 2"},
		{"one key, falling", nil, get("b", "a", 1, true), "b 2"},

		{"its own write", []api.Event{puts(uu, "bb", "9")}, scan("", "", 0, false), "a 1 b 2 bb 9 c 3 d 4"},
		{"its own write over another", []api.Event{puts(uu, "b", "9")}, scan("", "", 0, false), "a 1 b 9 c 3 d 4"},
		{"its own deletion", []api.Event{deletes(uu, "b")}, scan("", "", 0, false), "a 1 c 3 d 4"},
		{"its own deletion of nothing", []api.Event{deletes(uu, "bb")}, scan("", "", 0, false), "a 1 b 2 c 3 d 4"},
		{"its last write", []api.Event{puts(uu, "b", "9"), deletes(uu, "b"), puts(uu, "b", "8")}, get("b", "", 0, false), "b 8"},
		{"its own write outside", []api.Event{puts(uu, "d", "9")}, scan("b", "d", 0, false), "b 2 c 3"},
		{"its own write at the upper bound of a key", []api.Event{puts(uu, "b\x00", "9")}, get("b", "", 0, false), "b 2"},
		{"its own writes, then the limit", []api.Event{deletes(uu, "a"), puts(uu, "bb", "9")}, scan("", "", 2, false), "b 2 bb 9"},
		{"its own writes, then the limit, falling", []api.Event{puts(uu, "z", "9")}, scan("", "", 2, true), "z 9 d 4"},
		{"another one's write", []api.Event{puts(api.Txn{Client: 6, Seq: 2}, "b", "9")}, get("b", "", 0, false), "b 2"},
	}
	for _, c := range cases {
		events := append(append([]api.Event(nil), past...), c.before...)
		place := len(events)
		behind := puts(uu, "a", "behind") // a write behind the read is not seen by it
		right := append(events, read(uu, c.op, sb, c.want), behind)
		wantCheck(t, c.what, result(right, entry(tt, sb)), api.OK, 0)
		wantCheck(t, c.what+", more", result(append(events, read(uu, c.op, sb, c.want+" zz 1"), behind), entry(tt, sb)), api.ErrSnapshot, place)
		if pairs := pairsOf(c.want); len(pairs) > 0 {
			fewer := read(uu, c.op, sb, c.want)
			fewer.Answer.Pairs = pairs[:len(pairs)-1]
			wantCheck(t, c.what+", fewer", result(append(events, fewer, behind), entry(tt, sb)), api.ErrSnapshot, place)
			other := read(uu, c.op, sb, c.want)
			other.Answer.Pairs[0].Value = "x"
			wantCheck(t, c.what+", another value", result(append(events, other, behind), entry(tt, sb)), api.ErrSnapshot, place)
			if len(pairs) > 1 {
				turned := read(uu, c.op, sb, c.want)
				p := turned.Answer.Pairs
				p[0], p[1] = p[1], p[0]
				wantCheck(t, c.what+", turned", result(append(events, turned, behind), entry(tt, sb)), api.ErrSnapshot, place)
			}
		}
		refused := event(uu, c.op, api.ErrBusy, sb)
		wantCheck(t, c.what+", refused", result(append(events, refused, behind), entry(tt, sb)), api.OK, 0)
	}
}

// P18.4, 5: at which stamp a read is looked at, and behind which commits.
func TestSnapshotsAndSerialReads(t *testing.T) {
	third := api.Txn{Client: 7, Seq: 1}
	sd := api.Stamp{Wall: 4}
	write := []api.Event{puts(tt, "k", "1"), puts(third, "k", "3")}
	and := func(list ...api.Event) []api.Event { return append(append([]api.Event(nil), write...), list...) }
	wantTold(t, []told{
		{"below the commit", and(gets(uu, "k", sa, "")), []api.Entry{entry(tt, sb)}, api.OK, 0},
		{"at the commit", and(gets(uu, "k", sb, "k 1")), []api.Entry{entry(tt, sb)}, api.OK, 0},
		{"at the commit, not seen", and(gets(uu, "k", sb, "")), []api.Entry{entry(tt, sb)}, api.ErrSnapshot, 2},
		{"a node below the commit", and(gets(uu, "k", api.Stamp{Wall: 2, Node: 8}, "k 1")), []api.Entry{entry(tt, sb)}, api.ErrSnapshot, 2},
		{"the list's order doesn't count", and(gets(uu, "k", sc, "k 3")), []api.Entry{entry(third, sc), entry(tt, sa)}, api.OK, 0},
		{"what is not committed is not seen", and(gets(uu, "k", sc, "k 1")), []api.Entry{entry(tt, sb)}, api.OK, 0},
		{"a dirty read", and(gets(uu, "k", sc, "k 3")), []api.Entry{entry(tt, sb), {Txn: third, Outcome: api.Aborted, At: sb}}, api.ErrSnapshot, 2},

		{"nothing between", and(gets(uu, "k", sa, "k 1")), []api.Entry{entry(tt, sa), entry(uu, sc)}, api.OK, 0},
		{"something between", and(gets(uu, "k", sa, "k 1")), []api.Entry{entry(tt, sa), entry(third, sb), entry(uu, sc)}, api.ErrSerial, 2},
		{"something behind", and(gets(uu, "k", sa, "k 1")), []api.Entry{entry(tt, sa), entry(third, sd), entry(uu, sc)}, api.OK, 0},
		{"something between, elsewhere", and(gets(uu, "j", sa, "")), []api.Entry{entry(tt, sa), entry(third, sb), entry(uu, sc)}, api.OK, 0},
		{"something between, and not committed itself", and(gets(uu, "k", sa, "k 1")), []api.Entry{entry(tt, sa), entry(third, sb)}, api.OK, 0},
		{"something between, and aborted itself", and(gets(uu, "k", sa, "k 1")), []api.Entry{entry(tt, sa), entry(third, sb), {Txn: uu, Outcome: api.Aborted, At: sc}}, api.OK, 0},
		{"the snapshot comes first", and(gets(uu, "k", sa, "k 3")), []api.Entry{entry(tt, sa), entry(third, sb), entry(uu, sc)}, api.ErrSnapshot, 2},
		{"its own write hides it", and(puts(uu, "k", "9"), gets(uu, "k", sa, "k 9")), []api.Entry{entry(tt, sa), entry(third, sb), entry(uu, sc)}, api.OK, 0},
		{"a read above its own commit sees it", and(puts(uu, "j", "9"), gets(uu, "k", sd, "k 3")), []api.Entry{entry(uu, sa), entry(third, sb)}, api.ErrSerial, 3},
		{"its own later write is not seen in its own place", and(gets(uu, "k", sa, ""), puts(uu, "k", "9")), []api.Entry{entry(uu, sb)}, api.OK, 0},
		{"at its own commit it sees its own later write", and(gets(uu, "k", sb, "k 9"), puts(uu, "k", "9")), []api.Entry{entry(uu, sb)}, api.ErrSerial, 2},
		{"a deletion between", []api.Event{puts(tt, "k", "1"), deletes(third, "k"), gets(uu, "k", sa, "k 1")}, []api.Entry{entry(tt, sa), entry(third, sb), entry(uu, sc)}, api.ErrSerial, 2},
		{"the same value between", []api.Event{puts(tt, "k", "1"), puts(third, "k", "1"), gets(uu, "k", sa, "k 1")}, []api.Entry{entry(tt, sa), entry(third, sb), entry(uu, sc)}, api.OK, 0},
	})
}

// P18.4: the first place counts, whatever is wrong there.
func TestTheFirstPlaceCounts(t *testing.T) {
	cause, ghost, snapshot := begins(uu, sa, "x"), aborts(tt, api.OK), gets(uu, "k", sa, "k 1")
	lost := []api.Event{puts(uu, "u", "1"), commits(uu, api.OK, sb)}
	list := []api.Entry{entry(tt, sc)}
	fine := begins(uu, sa, "")
	wantTold(t, []told{
		{"cause", []api.Event{fine, cause, ghost, snapshot, lost[0], lost[1]}, list, api.ErrCause, 1},
		{"ghost", []api.Event{ghost, cause, snapshot, lost[0], lost[1]}, list, api.ErrGhost, 0},
		{"snapshot", []api.Event{fine, fine, snapshot, ghost, cause, lost[0], lost[1]}, list, api.ErrSnapshot, 2},
		{"lost", []api.Event{lost[0], lost[1], ghost, cause, snapshot}, list, api.ErrLost, 1},
	})
}

// P18.4: of a result only Events and Commits count, of an event only its answer.
func TestWhatDoesNotCount(t *testing.T) {
	r := result([]api.Event{puts(tt, "k", "1"), commits(tt, api.OK, sb), gets(uu, "k", sc, "k 1")}, entry(tt, sb))
	r.Status, r.Flight, r.Steps = api.ErrConfig, -1, -7
	r.Waiting = []api.Event{aborts(tt, api.OK), puts(tt, "k", "2")}
	r.Shards = []api.Shown{{Entries: []api.Entry{entry(uu, sb)}}}
	for i := range r.Events {
		r.Events[i].Asked, r.Events[i].Answered = 9-i, -i
		r.Events[i].Answer.Client = uint32(77 + i)
	}
	r.Commits[0].Home = 99
	wantCheck(t, "", r, api.OK, 0)
	wantState(t, "", r, api.Span{}, sc, "k 1")
	wantCheck(t, "the zero result", api.Result{}, api.OK, 0)
	wantState(t, "the zero result", api.Result{}, api.Span{}, sc, "")
}
