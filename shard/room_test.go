package shard

import (
	"testing"

	"tidemark/api"
	"tidemark/disk"
	"tidemark/wal"
)

// full is a shard on a disk with so many bytes left, behind the log that it has made so far.
func full(t *testing.T, free int, list ...api.Msg) (*Shard, *disk.Disk) {
	t.Helper()
	probe := disk.New(maxRoom)
	s := open(t, parking(2), probe)
	for _, m := range list {
		s.Deliver(m)
	}
	d := disk.New(probe.Used() + free)
	s = open(t, parking(2), d)
	for _, m := range list {
		s.Deliver(m)
	}
	s.Sync()
	if d.Free() != free {
		t.Fatalf("%d bytes are left, want %d", d.Free(), free)
	}
	return s, d
}

func size(t *testing.T, r api.Record) int {
	t.Helper()
	bytes, e := wal.Encode(r)
	if e != api.OK {
		t.Fatalf("Encode(%v) = %d", r, e)
	}
	return len(bytes)
}

// P14.6, P14.7: a reserve or a record that has no room, by one byte.
func TestNoRoomForReadsAndPrepares(t *testing.T) {
	reserve := size(t, api.Record{Kind: api.RecReserve, Wall: 91})
	record := size(t, api.Record{Kind: api.RecPrepare, Txn: t2, At: at(80, 1, 0), Writes: puts("a=1")})
	first := prepareOf(t1, 0, at(5, 0, 2), nil, puts("k=x"))
	read, ask := readOf(2, 1, at(80, 0, 2), k), prepareOf(t2, 0, at(80, 0, 2), nil, puts("a=1"))

	s, _ := full(t, reserve-1, first)
	wantOut(t, "a read without room", s.Deliver(read), dataOf(2, 1, at(80, 0, 2), api.ErrFull)) // though it is blocked, too
	wantClock(t, "a read without room", s, at(80, 0, 2), 16)
	wantCounts(t, "a read without room", s, 0, 0, 1)
	wantOut(t, "a read that need not reserve", s.Deliver(readOf(2, 2, at(15, 0, 2), point("a"))), dataOf(2, 2, at(15, 0, 2), api.OK))
	wantOut(t, "one that may wait", s.Deliver(readOf(2, 3, at(15, 0, 2), k)))
	wantCounts(t, "one that may wait", s, 0, 1, 1)
	wantOut(t, "a prepare without room to reserve", s.Deliver(ask), voteOf(t2, 0, api.ErrFull, zero))
	wantClock(t, "a prepare without room to reserve", s, at(80, 1, 0), 16)

	s, _ = full(t, reserve, first)
	wantOut(t, "a read with room", s.Deliver(read))
	wantCounts(t, "a read with room", s, 0, 1, 1)

	s, _ = full(t, reserve+record-1, first)
	wantOut(t, "a prepare without room for its record", s.Deliver(ask))
	wantClock(t, "its reserve stays", s, at(80, 1, 0), 91)
	wantCounts(t, "it is not held", s, 1, 0, 1)
	wantOut(t, "Sync", s.Sync(), voteOf(t2, 0, api.ErrFull, zero))

	s, d := full(t, reserve+record, first)
	wantOut(t, "a prepare with room", s.Deliver(ask))
	wantOut(t, "Sync", s.Sync(), voteOf(t2, 0, api.OK, at(80, 1, 0)))
	if d.Free() != 0 {
		t.Errorf("%d bytes are left", d.Free())
	}
}

// P14.8 to P14.10: an outcome that has no room is as if it had not come, but for the clock; it may come again.
func TestNoRoomForOutcomes(t *testing.T) {
	reserve := size(t, api.Record{Kind: api.RecReserve, Wall: 61})
	decide := size(t, api.Record{Kind: api.RecDecide, Txn: t1, Outcome: api.Committed, At: at(50, 0, 0)})
	list := []api.Msg{prepareOf(t1, 0, at(5, 0, 2), nil, puts("k=x")), prepareOf(t2, 1, at(5, 0, 2), nil, puts("l=x"))}
	for _, m := range []api.Msg{commitOf(t1, 0, at(50, 0, 0)), learnOf(api.MsgTell, t2, 1, at(50, 0, 0)), learnOf(api.MsgDecide, t2, 1, at(50, 0, 0))} {
		for free, ceiling := range map[int]uint64{reserve - 1: 16, reserve + decide - 1: 61} {
			s, _ := full(t, free, list...)
			s.Deliver(readOf(2, 1, at(15, 0, 2), whole))
			wantOut(t, "a commit without room", s.Deliver(m))
			wantClock(t, "a commit without room", s, at(50, 0, 0), ceiling)
			wantCounts(t, "a commit without room", s, 0, 1, 2)
			wantEntries(t, "a commit without room", s)
		}
		s, _ := full(t, reserve+decide, list...)
		s.Deliver(m)
		wantCounts(t, "a commit with room", s, len(s.outbox), 0, 1)
		wantEntries(t, "a commit with room", s, committed(m.Txn, m.Home, m.At))
	}
	for _, m := range []api.Msg{queryOf(t1, 0), queryOf(t3, 0), learnOf(api.MsgTell, t2, 1, zero), learnOf(api.MsgDecide, t3, 1, zero)} {
		s, _ := full(t, decide-1, list...)
		s.Deliver(readOf(2, 1, at(15, 0, 2), whole))
		wantNothing(t, s, m, m)
		wantCounts(t, "an abort without room", s, 0, 1, 2)
		s, _ = full(t, decide, list...)
		s.Deliver(m)
		wantEntries(t, "an abort with room", s, aborted(m.Txn, m.Home))
	}
}

// P14.11, P14.12: the timer goes on to the next one; a mark is refused.
func TestNoRoomForTimerAndMark(t *testing.T) {
	decide := size(t, api.Record{Kind: api.RecDecide, Txn: t1, Outcome: api.Aborted})
	t4 := api.Txn{Client: 4, Seq: 1}
	list := []api.Msg{prepareOf(t1, 0, at(5, 0, 2), nil, puts("k=x")), prepareOf(t2, 0, at(5, 0, 2), nil, puts("l=x")), prepareOf(t3, 1, at(5, 0, 2), nil, puts("m=x")), prepareOf(t4, 0, at(5, 0, 2), nil, puts("n=x"))}
	query := api.Msg{Kind: api.MsgQuery, To: 1, Txn: t3, Home: 1}
	s, _ := full(t, decide, list...)
	wantOut(t, "Tick", s.Tick())
	wantEntries(t, "room for one", s, aborted(t1, 0))
	wantCounts(t, "room for one", s, 1, 0, 3)
	wantOut(t, "Sync", s.Sync(), query)
	wantOut(t, "Tick without room", s.Tick(), query)
	wantErrno(t, "Mark without room", s.Mark(at(9, 0, 0)), api.ErrFull)
	wantErrno(t, "Mark at the top, without room", s.Mark(at(topWall, 0, 0)), api.ErrExhausted)
	wantErrno(t, "Mark that is old, without room", s.Mark(zero), api.ErrOld)
	if s.Watermark() != zero {
		t.Errorf("Watermark() = %v", s.Watermark())
	}
	mark := size(t, api.Record{Kind: api.RecMark, At: at(9, 0, 0)})
	s, _ = full(t, mark-1, list...)
	s.Deliver(readOf(2, 1, at(8, 0, 2), whole))
	wantErrno(t, "Mark without room, by a byte", s.Mark(at(9, 0, 0)), api.ErrFull)
	wantCounts(t, "it wakes none", s, 0, 1, 4)
	s, _ = full(t, mark, list...)
	s.Deliver(readOf(2, 1, at(8, 0, 2), whole))
	wantErrno(t, "Mark with room", s.Mark(at(9, 0, 0)), api.OK)
	wantOut(t, "Sync", s.Sync(), dataOf(2, 1, at(8, 0, 2), api.ErrOld))
}
