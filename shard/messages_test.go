package shard

import (
	"math"
	"strconv"
	"testing"

	"tidemark/api"
	"tidemark/disk"
	"tidemark/msg"
)

// P14.5: what is no message to this shard.
func TestDeliverPassesOver(t *testing.T) {
	s := fresh(t, config())
	s.Deliver(prepareOf(t1, 1, at(5, 0, 2), nil, puts("k=x")))
	s.Sync()
	to := func(m api.Msg) api.Msg { m.To = 1; return m }
	wantNothing(t, s,
		api.Msg{}, api.Msg{Kind: 10}, api.Msg{Kind: -1}, api.Msg{Kind: math.MaxInt}, api.Msg{Kind: math.MinInt},
		dataOf(0, 1, at(1, 0, 0), api.OK), voteOf(t1, 1, api.OK, at(9, 0, 0)),
		api.Msg{Kind: api.MsgVote, Txn: t1, Home: 1, Status: api.OK, At: at(9, 0, 0)},
		api.Msg{Kind: api.MsgDone, Txn: t1, Home: 1, Outcome: api.Committed, At: at(9, 0, 0)},
		to(readOf(2, 1, at(9, 0, 2), whole)), to(prepareOf(t2, 0, at(9, 0, 2), nil, puts("a=1"))), to(commitOf(t1, 1, at(9, 0, 2))),
		to(learnOf(api.MsgTell, t1, 1, zero)), to(learnOf(api.MsgDecide, t1, 1, at(9, 0, 0))), to(queryOf(t2, 0)),
		api.Msg{Kind: api.MsgRead, At: at(9, 0, 2)},
		api.Msg{Kind: api.MsgRead, At: at(9, 0, 2), Reads: []api.Span{k, k}},
		api.Msg{Kind: api.MsgRead, At: at(9, 0, 2), Reads: []api.Span{{Lo: "b", Hi: "a"}}},
		api.Msg{Kind: api.MsgRead, At: at(9, 0, 2), Reads: []api.Span{k}, Home: 1},
		prepareOf(t2, 0, at(9, 0, 2), nil, nil), prepareOf(t2, 0, at(9, 0, 2), nil, puts("b=1", "a=1")),
		prepareOf(api.Txn{Client: 2}, 0, at(9, 0, 2), nil, puts("a=1")),
		learnOf(api.MsgTell, api.Txn{Client: 2}, 1, zero), queryOf(api.Txn{}, 0),
		api.Msg{Kind: api.MsgTell, Txn: t1, Home: 1}, api.Msg{Kind: api.MsgTell, Txn: t1, Home: 1, Outcome: 3},
		api.Msg{Kind: api.MsgDecide, Txn: t1, Home: 1, Outcome: api.Aborted, At: at(9, 0, 0)})
}

// P14.5: any number may stand as From: the reply goes there.
func TestRepliesGoToFrom(t *testing.T) {
	for _, from := range []uint32{0, 1, 7, topNumber} {
		s := fresh(t, config())
		for _, m := range []api.Msg{readOf(0, 1, at(5, 0, 0), k), prepareOf(t1, 0, at(5, 0, 0), nil, puts("k=x")), commitOf(t1, 0, at(50, 0, 0)), queryOf(t1, 0)} {
			m.From = from
			s.Deliver(m)
		}
		list := s.Sync()
		if len(list) != 4 {
			t.Fatalf("there go out %v", list)
		}
		for _, m := range list {
			if m.To != from || m.From != 0 {
				t.Errorf("From %d is answered by %v", from, m)
			}
		}
	}
}

// P14.6: the steps of a read, each ahead of the later ones.
func TestReadInItsOrder(t *testing.T) {
	s := fresh(t, parking(0))
	wantErrno(t, "Mark", s.Mark(at(20, 0, 0)), api.OK)
	s.Sync()
	wantOut(t, "at the top", s.Deliver(readOf(2, 1, at(topWall, 0, 0), k)), dataOf(2, 1, at(topWall, 0, 0), api.ErrExhausted))
	wantOut(t, "below the watermark", s.Deliver(readOf(2, 2, at(19, topNumber, topNumber), k)), dataOf(2, 2, at(19, topNumber, topNumber), api.ErrOld))
	wantClock(t, "neither is observed", s, zero, 0)
	wantOut(t, "at the watermark", s.Deliver(readOf(2, 3, at(20, 0, 0), k)))
	wantClock(t, "it is observed", s, at(20, 0, 0), 31)
	wantOut(t, "Sync", s.Sync(), dataOf(2, 3, at(20, 0, 0), api.OK))
	s.Deliver(prepareOf(t1, 0, at(25, 0, 2), nil, puts("k")))
	s.Sync()
	wantOut(t, "blocked, no room to park", s.Deliver(readOf(2, 4, at(40, 0, 0), k)))
	wantClock(t, "it is observed all the same", s, at(40, 0, 0), 51)
	wantOut(t, "Sync", s.Sync(), dataOf(2, 4, at(40, 0, 0), api.ErrBusy))
	wantOut(t, "just at the intent", s.Deliver(readOf(2, 5, at(25, 1, 0), k)), dataOf(2, 5, at(25, 1, 0), api.ErrBusy))
	wantOut(t, "just below the intent", s.Deliver(readOf(2, 6, at(25, 0, topNumber), k)), dataOf(2, 6, at(25, 0, topNumber), api.OK))
	wantOut(t, "beside the intent", s.Deliver(readOf(2, 7, at(40, 0, 0), point("k\x00"))), dataOf(2, 7, at(40, 0, 0), api.OK))
	wantOut(t, "below the watermark, and blocked", s.Deliver(readOf(2, 8, at(1, 0, 0), k)), dataOf(2, 8, at(1, 0, 0), api.ErrOld))
}

// P14.6: what makes a read a parked one's twin: From and Op alone.
func TestTwinsOfParkedReads(t *testing.T) {
	s := fresh(t, parking(2))
	s.Deliver(prepareOf(t1, 0, at(5, 0, 2), nil, puts("k=x", "l=y")))
	first, second := readOf(2, 1, at(10, 0, 2), k), readOf(3, 1, at(11, 0, 3), point("l"))
	s.Deliver(first)
	s.Deliver(second)
	s.Sync()
	wantNothing(t, s, first, second, readOf(2, 1, at(10, 0, 2), point("l")), readOf(3, 1, at(6, 0, 9), k))
	wantOut(t, "a twin that is not blocked", s.Deliver(readOf(2, 1, at(10, 0, 2), point("a"))), dataOf(2, 1, at(10, 0, 2), api.OK))
	wantOut(t, "no twin", s.Deliver(readOf(2, 2, at(10, 0, 2), k)), dataOf(2, 2, at(10, 0, 2), api.ErrBusy))
	wantOut(t, "no twin either", s.Deliver(readOf(4, 1, at(10, 0, 2), k)), dataOf(4, 1, at(10, 0, 2), api.ErrBusy))
	wantParked(t, "two", s, first, second)
	s.Deliver(learnOf(api.MsgDecide, t1, 0, zero))
	wantOut(t, "Sync", s.Sync(), dataOf(2, 1, at(10, 0, 2), api.OK), dataOf(3, 1, at(11, 0, 3), api.OK))
}

// many lays n keys down, by transactions of sixteen writes each.
func many(t *testing.T, s *Shard, n int) {
	t.Helper()
	for i := 0; i < n; i += maxWrites {
		var writes []api.Write
		for j := i; j < min(n, i+maxWrites); j++ {
			writes = append(writes, api.Write{Key: "k" + strconv.Itoa(1000+j), Value: "v"})
		}
		txn := api.Txn{Client: 5, Seq: 1 + uint32(i)}
		s.Deliver(prepareOf(txn, 0, zero, nil, writes))
		s.Deliver(commitOf(txn, 0, s.Last()))
	}
	s.Sync()
}

// P14.6: as many pairs as may be, and one more: at once, and woken.
func TestReadsOfManyPairs(t *testing.T) {
	for _, n := range []int{maxPairs - 1, maxPairs, maxPairs + 1} {
		s := open(t, config(), disk.New(maxRoom))
		many(t, s, n)
		when := s.Last()
		list := s.Deliver(readOf(2, 1, when, whole))
		s.Deliver(prepareOf(t1, 0, when, nil, puts("k1000=w")))
		s.Deliver(readOf(2, 2, at(when.Wall+1, 0, 0), whole))
		wantCounts(t, "many", s, 1, 1, 1)
		s.Deliver(queryOf(t1, 0))
		list = append(list, s.Sync()[2:]...)
		if len(list) != 2 {
			t.Fatalf("%d pairs: there go out %v", n, list)
		}
		for _, m := range list {
			if n > maxPairs {
				wantOut(t, "too many", []api.Msg{m}, dataOf(2, m.Op, m.At, api.ErrMany))
			} else if m.Status != api.OK || len(m.Pairs) != n || msg.Valid(m) != api.OK {
				t.Errorf("%d pairs: status %d, %d pairs", n, m.Status, len(m.Pairs))
			}
		}
	}
}

// P14.7: what a Prepare meets of its own transaction.
func TestPrepareAgain(t *testing.T) {
	s := fresh(t, config())
	held := prepareOf(t1, 1, at(5, 0, 2), []api.Span{k}, puts("a=1"))
	s.Deliver(held)
	wantOut(t, "Sync", s.Sync(), voteOf(t1, 1, api.OK, at(5, 1, 0)))
	want := api.Held{Txn: t1, Home: 1, At: at(5, 1, 0), Reads: []api.Span{k}, Writes: puts("a=1")}
	before := show(s)
	wantOut(t, "again", s.Deliver(held), voteOf(t1, 1, api.OK, at(5, 1, 0)))
	wantOut(t, "with another footprint", s.Deliver(prepareOf(t1, 1, at(topWall, 0, 2), []api.Span{whole}, puts("z=1"))), voteOf(t1, 1, api.OK, at(5, 1, 0)))
	wantNothing(t, s, prepareOf(t1, 0, at(5, 0, 2), []api.Span{k}, puts("a=1")))
	if !show(s).same(before) {
		t.Errorf("a Prepare that comes again changes %v to %v", before, show(s))
	}
	wantHeld(t, "as at first", s, want)
	s.Deliver(learnOf(api.MsgTell, t1, 1, at(5, 1, 0)))
	s.Deliver(learnOf(api.MsgTell, t2, 1, zero))
	s.Sync()
	wantNothing(t, s, held)
	wantOut(t, "an aborted one", s.Deliver(prepareOf(t2, 0, at(topWall, 0, 0), nil, puts("a=1"))), voteOf(t2, 0, api.ErrAborted, zero))
}

// P14.7: a vote that is not yes, each with its reason, and none of them holds.
func TestPrepareRefuses(t *testing.T) {
	s := fresh(t, config())
	s.Deliver(prepareOf(t1, 0, at(5, 0, 2), []api.Span{point("r")}, puts("k=x")))
	s.Deliver(prepareOf(t2, 0, at(30, 0, 2), nil, puts("n=1")))
	s.Deliver(commitOf(t2, 0, at(40, 0, 0)))
	s.Mark(at(20, 0, 0))
	s.Sync()
	last, ceiling := s.Last(), s.Ceiling()
	for _, c := range []struct {
		what   string
		when   api.Stamp
		reads  []api.Span
		writes []api.Write
		want   api.Errno
	}{
		{"the top wall, and all else", at(topWall, 0, 0), []api.Span{whole}, puts("k=1"), api.ErrExhausted},
		{"below the watermark, and all else", at(19, topNumber, 0), []api.Span{whole}, puts("k=1"), api.ErrOld},
		{"an intent, and stale", at(20, 0, 0), []api.Span{whole}, nil, api.ErrConflict},
		{"an intent on the same key", at(99, 0, 0), nil, puts("k=1"), api.ErrConflict},
		{"a read lock", at(99, 0, 0), nil, puts("r"), api.ErrConflict},
		{"stale", at(39, topNumber, topNumber), []api.Span{{Lo: "m"}}, nil, api.ErrStale},
	} {
		wantOut(t, c.what, s.Deliver(prepareOf(t3, 0, c.when, c.reads, c.writes)), voteOf(t3, 0, c.want, zero))
		wantCounts(t, c.what, s, 0, 0, 1)
		wantClock(t, c.what, s, last, ceiling)
	}
	s.Deliver(prepareOf(t3, 0, at(19, 0, 0), nil, puts("z=1"))) // without a read the watermark is nothing to it
	wantOut(t, "Sync", s.Sync(), voteOf(t3, 0, api.OK, at(40, 1, 0)))
	t4 := api.Txn{Client: 4, Seq: 1}
	s.Deliver(prepareOf(t4, 0, at(40, 0, 0), []api.Span{point("n"), point("r")}, nil)) // what it has read is as old as its start
	wantOut(t, "Sync", s.Sync(), voteOf(t4, 0, api.OK, at(40, 2, 0)))
}

// P14.7: a clock at its end has no stamp; what it has observed by then it has observed.
func TestPrepareAtTheClocksEnd(t *testing.T) {
	s := fresh(t, config())
	s.Deliver(prepareOf(t1, 0, at(topWall-1, topNumber-1, 2), nil, puts("k=x")))
	wantClock(t, "the last stamp", s, at(topWall-1, topNumber, 0), topWall)
	wantOut(t, "Sync", s.Sync(), voteOf(t1, 0, api.OK, at(topWall-1, topNumber, 0)))
	wantOut(t, "one more", s.Deliver(prepareOf(t2, 0, zero, nil, puts("a=x"))), voteOf(t2, 0, api.ErrExhausted, zero))
	wantCounts(t, "one more", s, 0, 0, 1)
	s = fresh(t, config())
	s.Clock(topWall)
	wantOut(t, "a reading at the end", s.Deliver(prepareOf(t1, 0, at(7, 0, 2), nil, puts("k=x"))), voteOf(t1, 0, api.ErrExhausted, zero))
	wantClock(t, "a reading at the end", s, at(7, 0, 2), 0)
	s.Clock(6)
	s.Deliver(prepareOf(t1, 0, at(3, 0, 2), nil, puts("k=x")))
	wantOut(t, "Sync", s.Sync(), voteOf(t1, 0, api.OK, at(7, 1, 0)))
}

// P14.8: which Commit is taken.
func TestCommit(t *testing.T) {
	d := disk.New(10000)
	s := open(t, config(), d)
	s.Deliver(prepareOf(t1, 0, at(5, 0, 2), nil, puts("k=x")))
	s.Deliver(prepareOf(t2, 1, at(6, 0, 2), nil, puts("l=x")))
	s.Sync()
	wantNothing(t, s,
		commitOf(t1, 1, at(9, 0, 0)), commitOf(t1, 0, at(5, 0, topNumber)), commitOf(t1, 0, at(topWall, 0, 0)), commitOf(t1, 0, zero),
		commitOf(t2, 0, at(9, 0, 0)), commitOf(t2, 1, at(9, 0, 0)), commitOf(t3, 0, at(9, 0, 0)))
	wantOut(t, "Commit", s.Deliver(commitOf(t1, 0, at(50, 0, 7))))
	wantClock(t, "Commit", s, at(50, 0, 7), 61)
	wantEntries(t, "Commit", s, committed(t1, 0, at(50, 0, 7)))
	wantHeld(t, "Commit", s, api.Held{Txn: t2, Home: 1, At: at(6, 1, 0), Writes: puts("l=x")})
	wantOut(t, "again, not synced", s.Deliver(commitOf(t1, 0, at(5, 1, 0))))
	done := doneOf(t1, committed(t1, 0, at(50, 0, 7)))
	wantOut(t, "Sync", s.Sync(), done, done)
	wantOut(t, "again", s.Deliver(commitOf(t1, 0, at(topWall, 0, 0))), done)
	wantNothing(t, s, commitOf(t1, 1, at(50, 0, 7)))
	s.Deliver(queryOf(t3, 0))
	s.Sync()
	wantOut(t, "of an aborted one", s.Deliver(commitOf(t3, 0, at(60, 0, 0))), doneOf(t3, aborted(t3, 0)))
	wantOut(t, "just below", s.Deliver(readOf(2, 1, at(50, 0, 6), k)), dataOf(2, 1, at(50, 0, 6), api.OK))
	wantOut(t, "just at it", s.Deliver(readOf(2, 2, at(50, 0, 7), k)), dataOf(2, 2, at(50, 0, 7), api.OK, pairs("k=x")...))
}

// P14.8: a Commit of what another shard has told here, under this shard's name as its home.
func TestCommitOfAnEntryOfAnotherHome(t *testing.T) {
	s := fresh(t, config())
	s.Deliver(learnOf(api.MsgTell, t1, 1, zero))
	s.Sync()
	wantNothing(t, s, commitOf(t1, 1, at(9, 0, 0)), queryOf(t1, 1))
	wantOut(t, "Commit", s.Deliver(commitOf(t1, 0, at(9, 0, 0))), doneOf(t1, aborted(t1, 0)))
	wantOut(t, "Query", s.Deliver(queryOf(t1, 0)), tellOf(1, aborted(t1, 0)))
}

// P14.9: Decide and Tell alike.
func TestLearn(t *testing.T) {
	for _, kind := range []api.Kind{api.MsgDecide, api.MsgTell} {
		s := fresh(t, parking(2))
		s.Deliver(prepareOf(t1, 1, at(5, 0, 2), nil, puts("k=x")))
		s.Deliver(prepareOf(t2, 0, at(6, 0, 2), nil, puts("l=x")))
		s.Deliver(prepareOf(t3, 1, at(7, 0, 2), nil, puts("m=x")))
		s.Deliver(readOf(2, 1, at(20, 0, 2), k))
		s.Sync()
		wantNothing(t, s,
			learnOf(kind, t1, 0, zero), learnOf(kind, t1, 0, at(9, 0, 0)), learnOf(kind, t1, 7, zero),
			learnOf(kind, t1, 1, at(5, 0, topNumber)), learnOf(kind, t1, 1, at(topWall, 0, 0)),
			learnOf(kind, t2, 1, zero), learnOf(kind, t2, 0, at(9, 0, 0)), // a home commits by Commit alone
			learnOf(kind, api.Txn{Client: 9, Seq: 9}, 1, at(9, 0, 0)))
		wantOut(t, "Committed", s.Deliver(learnOf(kind, t1, 1, at(50, 0, 1))))
		wantClock(t, "Committed", s, at(50, 0, 1), 61)
		wantOut(t, "Sync", s.Sync(), dataOf(2, 1, at(20, 0, 2), api.OK)) // the commit is above it
		wantOut(t, "Aborted", s.Deliver(learnOf(kind, t2, 0, zero)))
		wantOut(t, "Aborted at its home", s.Deliver(learnOf(kind, t3, 1, zero)))
		wantOut(t, "a tombstone", s.Deliver(learnOf(kind, api.Txn{Client: 9, Seq: 9}, 5, zero)))
		wantEntries(t, "all", s, committed(t1, 1, at(50, 0, 1)), aborted(t2, 0), aborted(t3, 1), aborted(api.Txn{Client: 9, Seq: 9}, 5))
		wantCounts(t, "all", s, 0, 0, 0)
		wantNothing(t, s, learnOf(kind, t1, 1, zero), learnOf(kind, t1, 1, at(51, 0, 1)), learnOf(kind, t2, 0, zero), learnOf(kind, t3, 1, at(51, 0, 1)))
		wantOut(t, "Sync", s.Sync())
		wantOut(t, "a read at the commit", s.Deliver(readOf(2, 2, at(50, 0, 1), whole)), dataOf(2, 2, at(50, 0, 1), api.OK, pairs("k=x")...))
	}
}

// P14.10: a home that is asked decides; what is another one's it leaves.
func TestQuery(t *testing.T) {
	s := fresh(t, config())
	s.Deliver(prepareOf(t1, 1, at(5, 0, 2), nil, puts("k=x")))
	s.Deliver(prepareOf(t2, 0, at(6, 0, 2), nil, puts("l=x")))
	s.Deliver(readOf(2, 1, at(20, 0, 2), point("l")))
	s.Sync()
	wantNothing(t, s, queryOf(t1, 0), queryOf(t1, 1), queryOf(t2, 1), queryOf(t3, 1), queryOf(t3, topNumber))
	wantOut(t, "of one that is held", s.Deliver(queryOf(t2, 0)))
	wantOut(t, "of an unknown one", s.Deliver(queryOf(t3, 0)))
	wantOut(t, "Sync", s.Sync(), tellOf(1, aborted(t2, 0)), dataOf(2, 1, at(20, 0, 2), api.OK), tellOf(1, aborted(t3, 0)))
	wantEntries(t, "both", s, aborted(t2, 0), aborted(t3, 0))
	wantOut(t, "again", s.Deliver(queryOf(t2, 0)), tellOf(1, aborted(t2, 0)))
	t4 := api.Txn{Client: 4, Seq: 1}
	s.Deliver(prepareOf(t4, 0, at(30, 0, 2), nil, puts("z=x")))
	s.Deliver(commitOf(t4, 0, at(40, 0, 0)))
	s.Sync()
	wantOut(t, "of a committed one", s.Deliver(queryOf(t4, 0)), tellOf(1, committed(t4, 0, at(40, 0, 0))))
}

// P14.11: in the order of the transactions; a Query waits for what it stands on.
func TestTick(t *testing.T) {
	s := fresh(t, parking(2))
	t0 := api.Txn{Client: 0, Seq: topNumber}
	s.Deliver(prepareOf(t3, 1, at(5, 0, 3), nil, puts("c=x")))
	s.Deliver(prepareOf(t1, 0, at(5, 0, 2), nil, puts("a=x")))
	s.Deliver(prepareOf(t0, 4, at(5, 0, 2), nil, puts("b=x")))
	s.Deliver(readOf(2, 1, at(20, 0, 2), whole))
	s.Deliver(readOf(2, 2, at(20, 0, 2), point("a")))
	s.Sync()
	wantOut(t, "Tick", s.Tick(), api.Msg{Kind: api.MsgQuery, To: 4, Txn: t0, Home: 4})
	wantEntries(t, "Tick", s, aborted(t1, 0))
	wantCounts(t, "Tick", s, 2, 1, 2)
	query := api.Msg{Kind: api.MsgQuery, To: 1, Txn: t3, Home: 1}
	wantOut(t, "Sync", s.Sync(), dataOf(2, 2, at(20, 0, 2), api.OK), query)
	wantOut(t, "Tick once more", s.Tick(), api.Msg{Kind: api.MsgQuery, To: 4, Txn: t0, Home: 4}, query)
	wantOut(t, "a shard that holds nothing", fresh(t, config()).Tick())
}

// P14.12: what a mark wakes: those that it passes are old, the others are served or stay.
func TestMark(t *testing.T) {
	s := fresh(t, parking(4))
	s.Deliver(prepareOf(t1, 0, at(5, 0, 2), nil, puts("k=x")))
	for op, wall := range []uint64{30, 10, 20, 14} {
		s.Deliver(readOf(3, uint32(op), at(wall, 0, 3), k))
	}
	s.Sync()
	for _, c := range []struct {
		when api.Stamp
		want api.Errno
	}{{at(topWall, 0, 0), api.ErrExhausted}, {zero, api.ErrOld}, {at(14, 0, 3), api.OK}, {at(14, 0, 3), api.ErrOld}, {at(14, 0, 2), api.ErrOld}, {at(topWall, 1, 1), api.ErrExhausted}, {at(20, 0, 4), api.OK}} {
		before, waiting := s.Watermark(), s.Waiting()
		wantErrno(t, "Mark", s.Mark(c.when), c.want)
		if c.want == api.OK && s.Watermark() != c.when || c.want != api.OK && (s.Watermark() != before || s.Waiting() != waiting) {
			t.Errorf("Mark(%v): Watermark() = %v, Waiting() = %d", c.when, s.Watermark(), s.Waiting())
		}
	}
	wantParked(t, "above the marks", s, readOf(3, 0, at(30, 0, 3), k))
	wantOut(t, "a Deliver does not sync", s.Deliver(api.Msg{}))
	wantOut(t, "Sync", s.Sync(), dataOf(3, 1, at(10, 0, 3), api.ErrOld), dataOf(3, 2, at(20, 0, 3), api.ErrOld), dataOf(3, 3, at(14, 0, 3), api.ErrOld))
	wantClock(t, "a mark is no stamp that is used", s, at(30, 0, 3), 41)
}
