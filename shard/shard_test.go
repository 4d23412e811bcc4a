package shard

import (
	"slices"
	"strings"
	"testing"

	"tidemark/api"
	"tidemark/disk"
	"tidemark/msg"
	"tidemark/state"
	"tidemark/wal"
)

// Limits of DOC.md, told apart from api's constants.
const (
	topWall   = 1<<64 - 1
	topNumber = 1<<32 - 1
	maxPairs  = 512
	maxWrites = 16
	maxImage  = 1048560
	maxRoom   = 1048576
)

var (
	zero  = api.Stamp{}
	whole = api.Span{}
	k     = point("k")
	t1    = api.Txn{Client: 2, Seq: 1}
	t2    = api.Txn{Client: 2, Seq: 2}
	t3    = api.Txn{Client: 3, Seq: 9}
)

func at(wall uint64, logical, node uint32) api.Stamp {
	return api.Stamp{Wall: wall, Logical: logical, Node: node}
}

func point(key string) api.Span { return api.Span{Lo: key, Hi: key + "\x00"} }

// puts makes writes of texts like a=1; a text without a sign is a deletion.
func puts(texts ...string) []api.Write {
	var list []api.Write
	for _, text := range texts {
		key, value, put := strings.Cut(text, "=")
		list = append(list, api.Write{Key: key, Delete: !put, Value: value})
	}
	return list
}

func pairs(texts ...string) []api.Pair {
	var list []api.Pair
	for _, text := range texts {
		key, value, _ := strings.Cut(text, "=")
		list = append(list, api.Pair{Key: key, Value: value})
	}
	return list
}

// config is that of the chapter's examples.
func config() api.Config {
	return api.Config{Shards: 2, Clients: 2, Splits: []string{"m"}, Capacity: 10000, Park: 1, Window: 10}
}

func parking(n int) api.Config {
	c := config()
	c.Park = n
	return c
}

// Messages in, all to shard 0.

func readOf(from, op uint32, when api.Stamp, s api.Span) api.Msg {
	return api.Msg{Kind: api.MsgRead, From: from, Op: op, At: when, Reads: []api.Span{s}}
}

func prepareOf(txn api.Txn, home uint32, when api.Stamp, reads []api.Span, writes []api.Write) api.Msg {
	return api.Msg{Kind: api.MsgPrepare, From: txn.Client, Txn: txn, Home: home, At: when, Reads: reads, Writes: writes}
}

func commitOf(txn api.Txn, home uint32, when api.Stamp) api.Msg {
	return api.Msg{Kind: api.MsgCommit, From: txn.Client, Txn: txn, Home: home, At: when}
}

func queryOf(txn api.Txn, home uint32) api.Msg {
	return api.Msg{Kind: api.MsgQuery, From: 1, Txn: txn, Home: home}
}

// learnOf makes a Decide or a Tell; a zero stamp stands for Aborted.
func learnOf(kind api.Kind, txn api.Txn, home uint32, when api.Stamp) api.Msg {
	m := api.Msg{Kind: kind, From: 1, Txn: txn, Home: home, Outcome: api.Committed, At: when}
	if when == zero {
		m.Outcome = api.Aborted
	}
	return m
}

// Messages out, all from shard 0.

func dataOf(to, op uint32, when api.Stamp, e api.Errno, list ...api.Pair) api.Msg {
	return api.Msg{Kind: api.MsgData, To: to, Op: op, At: when, Status: e, Pairs: list}
}

func voteOf(txn api.Txn, home uint32, e api.Errno, when api.Stamp) api.Msg {
	return api.Msg{Kind: api.MsgVote, To: txn.Client, Txn: txn, Home: home, Status: e, At: when}
}

func doneOf(txn api.Txn, e api.Entry) api.Msg {
	return api.Msg{Kind: api.MsgDone, To: txn.Client, Txn: txn, Outcome: e.Outcome, At: e.At}
}

func tellOf(to uint32, e api.Entry) api.Msg {
	return api.Msg{Kind: api.MsgTell, To: to, Txn: e.Txn, Outcome: e.Outcome, At: e.At}
}

func committed(txn api.Txn, home uint32, when api.Stamp) api.Entry {
	return api.Entry{Txn: txn, Home: home, Outcome: api.Committed, At: when}
}

func aborted(txn api.Txn, home uint32) api.Entry {
	return api.Entry{Txn: txn, Home: home, Outcome: api.Aborted}
}

// sameMsg, sameHeld: a nil list and an empty one are the same.

func sameMsg(a, b api.Msg) bool {
	return a.Kind == b.Kind && a.From == b.From && a.To == b.To && a.Txn == b.Txn && a.Home == b.Home &&
		a.Op == b.Op && a.At == b.At && a.Status == b.Status && a.Outcome == b.Outcome &&
		slices.Equal(a.Reads, b.Reads) && slices.Equal(a.Writes, b.Writes) && slices.Equal(a.Pairs, b.Pairs)
}

func sameHeld(a, b api.Held) bool {
	return a.Txn == b.Txn && a.Home == b.Home && a.At == b.At && slices.Equal(a.Reads, b.Reads) && slices.Equal(a.Writes, b.Writes)
}

func open(t *testing.T, c api.Config, d *disk.Disk) *Shard {
	t.Helper()
	s, e := Open(0, c, d)
	if s == nil || e != api.OK {
		t.Fatalf("Open(0, %v, ..) = %v, %d", c, s, e)
	}
	return s
}

func fresh(t *testing.T, c api.Config) *Shard {
	t.Helper()
	return open(t, c, disk.New(c.Capacity))
}

// wantOut holds what goes out to a list, and each of it to being valid (P14.19).
func wantOut(t *testing.T, what string, got []api.Msg, want ...api.Msg) {
	t.Helper()
	if !slices.EqualFunc(got, want, sameMsg) {
		t.Errorf("%s: there go out %v, want %v", what, got, want)
	}
	for _, m := range got {
		if msg.Valid(m) != api.OK {
			t.Errorf("%s: %v goes out, which is not valid", what, m)
		}
	}
}

func wantErrno(t *testing.T, what string, got, want api.Errno) {
	t.Helper()
	if got != want {
		t.Errorf("%s = %d, want %d", what, got, want)
	}
}

// shown is all that a shard tells.
type shown struct {
	last      api.Stamp
	ceiling   uint64
	watermark api.Stamp
	waiting   int
	parked    []api.Msg
	held      []api.Held
	entries   []api.Entry
}

func show(s *Shard) shown {
	return shown{s.Last(), s.Ceiling(), s.Watermark(), s.Waiting(), s.Parked(), s.Held(), s.Entries()}
}

func (a shown) same(b shown) bool {
	return a.last == b.last && a.ceiling == b.ceiling && a.watermark == b.watermark && a.waiting == b.waiting &&
		slices.EqualFunc(a.parked, b.parked, sameMsg) && slices.EqualFunc(a.held, b.held, sameHeld) && slices.Equal(a.entries, b.entries)
}

func wantClock(t *testing.T, what string, s *Shard, last api.Stamp, ceiling uint64) {
	t.Helper()
	if s.Last() != last || s.Ceiling() != ceiling {
		t.Errorf("%s: Last %v, Ceiling %d, want %v, %d", what, s.Last(), s.Ceiling(), last, ceiling)
	}
}

func wantCounts(t *testing.T, what string, s *Shard, waiting, parked, held int) {
	t.Helper()
	if s.Waiting() != waiting || len(s.Parked()) != parked || len(s.Held()) != held {
		t.Errorf("%s: Waiting %d, Parked %v, Held %v, want %d, %d of them, %d of them", what, s.Waiting(), s.Parked(), s.Held(), waiting, parked, held)
	}
}

func wantEntries(t *testing.T, what string, s *Shard, want ...api.Entry) {
	t.Helper()
	if got := s.Entries(); !slices.Equal(got, want) {
		t.Errorf("%s: Entries() = %v, want %v", what, got, want)
	}
}

func wantHeld(t *testing.T, what string, s *Shard, want ...api.Held) {
	t.Helper()
	if got := s.Held(); !slices.EqualFunc(got, want, sameHeld) {
		t.Errorf("%s: Held() = %v, want %v", what, got, want)
	}
}

func wantParked(t *testing.T, what string, s *Shard, want ...api.Msg) {
	t.Helper()
	if got := s.Parked(); !slices.EqualFunc(got, want, sameMsg) {
		t.Errorf("%s: Parked() = %v, want %v", what, got, want)
	}
}

// wantNothing delivers messages that change nothing and bring nothing out.
func wantNothing(t *testing.T, s *Shard, list ...api.Msg) {
	t.Helper()
	for _, m := range list {
		before := show(s)
		wantOut(t, "nothing", s.Deliver(m))
		if !show(s).same(before) {
			t.Errorf("Deliver(%v) changes %v to %v", m, before, show(s))
		}
	}
}

// wantOnDisk holds the records of the disk, synced or not, to a list.
func wantOnDisk(t *testing.T, what string, d *disk.Disk, want ...api.Record) {
	t.Helper()
	_, got := wal.Pick(d.Bytes(0), d.Bytes(1))
	same := func(a, b api.Record) bool {
		x, e := wal.Encode(a)
		y, f := wal.Encode(b)
		return e == api.OK && f == api.OK && x == y
	}
	if !slices.EqualFunc(got, want, same) {
		t.Errorf("%s: on the disk are %v, want %v", what, got, want)
	}
}

// The chapter's examples, one behind the other (P14.1 to P14.13).
func TestTheChaptersTable(t *testing.T) {
	d := disk.New(10000)
	s := open(t, config(), d)
	s.Clock(100)
	wantClock(t, "Clock", s, zero, 0)
	first := readOf(2, 1, at(50, 0, 2), k)
	wantOut(t, "Read", s.Deliver(first))
	wantClock(t, "Read", s, at(50, 0, 2), 61)
	wantCounts(t, "Read", s, 1, 0, 0)
	wantOut(t, "Sync", s.Sync(), dataOf(2, 1, at(50, 0, 2), api.OK))
	wantCounts(t, "Sync", s, 0, 0, 0)
	wantOut(t, "again", s.Deliver(first), dataOf(2, 1, at(50, 0, 2), api.OK))
	wantOut(t, "Prepare", s.Deliver(prepareOf(t1, 0, at(50, 0, 2), nil, puts("k=x"))))
	wantClock(t, "Prepare", s, at(100, 0, 0), 111)
	wantHeld(t, "Prepare", s, api.Held{Txn: t1, At: at(100, 0, 0), Writes: puts("k=x")})
	parked := readOf(3, 1, at(200, 0, 3), k)
	wantOut(t, "a read that is parked", s.Deliver(parked))
	wantClock(t, "a read that is parked", s, at(200, 0, 3), 211)
	wantParked(t, "a read that is parked", s, parked)
	wantOut(t, "a read without room", s.Deliver(readOf(3, 2, at(200, 0, 3), k)))
	wantCounts(t, "a read without room", s, 2, 1, 1)
	wantOut(t, "Sync", s.Sync(), voteOf(t1, 0, api.OK, at(100, 0, 0)), dataOf(3, 2, at(200, 0, 3), api.ErrBusy))
	wantCounts(t, "Sync", s, 0, 1, 1)
	wantOut(t, "a read below", s.Deliver(readOf(3, 3, at(99, 0, 3), k)), dataOf(3, 3, at(99, 0, 3), api.OK))
	wantOut(t, "Commit", s.Deliver(commitOf(t1, 0, at(100, 0, 0))))
	wantCounts(t, "Commit", s, 2, 0, 0)
	wantOut(t, "Sync", s.Sync(), doneOf(t1, committed(t1, 0, at(100, 0, 0))), dataOf(3, 1, at(200, 0, 3), api.OK, pairs("k=x")...))
	wantOut(t, "stale", s.Deliver(prepareOf(t2, 0, at(60, 0, 2), []api.Span{k}, nil)), voteOf(t2, 0, api.ErrStale, zero))
	wantOut(t, "Query", s.Deliver(queryOf(t3, 0)))
	wantEntries(t, "Query", s, committed(t1, 0, at(100, 0, 0)), aborted(t3, 0))
	wantOnDisk(t, "Query", d,
		api.Record{Kind: api.RecReserve, Wall: 61}, api.Record{Kind: api.RecReserve, Wall: 111},
		api.Record{Kind: api.RecPrepare, Txn: t1, At: at(100, 0, 0), Writes: puts("k=x")},
		api.Record{Kind: api.RecReserve, Wall: 211},
		api.Record{Kind: api.RecDecide, Txn: t1, Outcome: api.Committed, At: at(100, 0, 0)},
		api.Record{Kind: api.RecDecide, Txn: t3, Outcome: api.Aborted})
	d.Crash(0, 0)
	s = open(t, config(), d)
	wantClock(t, "behind the crash", s, at(211, 0, 0), 211)
	wantCounts(t, "behind the crash", s, 0, 0, 0)
	wantEntries(t, "behind the crash", s, committed(t1, 0, at(100, 0, 0)))
	wantErrno(t, "Mark", s.Mark(at(150, 0, 0)), api.OK)
	wantOut(t, "below the mark", s.Deliver(readOf(2, 9, at(149, 9, 9), k)))
	wantOut(t, "Sync", s.Sync(), dataOf(2, 9, at(149, 9, 9), api.ErrOld))
}

// P14.1: the errors, in their order; one that the log has no part in leaves the disk as it was.
func TestOpenRefuses(t *testing.T) {
	bad := config()
	bad.Shards = 3
	for _, c := range []struct {
		what string
		node uint32
		c    api.Config
		d    *disk.Disk
		want api.Errno
	}{
		{"no disk", 0, config(), nil, api.ErrArg},
		{"no disk, no configuration, no node", 9, bad, nil, api.ErrArg},
		{"no configuration", 0, bad, disk.New(1000), api.ErrConfig},
		{"no configuration, no node", 9, bad, disk.New(1000), api.ErrConfig},
		{"the zero configuration", 0, api.Config{}, disk.New(1000), api.ErrConfig},
		{"no node", 2, config(), disk.New(1000), api.ErrArg},
		{"no node at all", topNumber, config(), disk.New(1000), api.ErrArg},
		{"no node, no room", 2, config(), disk.New(0), api.ErrArg},
		{"no room", 0, config(), disk.New(13), api.ErrFull},
	} {
		if c.d != nil && c.d.Free() > 9 {
			c.d.Append(1, "not synced")
		}
		s, e := Open(c.node, c.c, c.d)
		if s != nil || e != c.want {
			t.Errorf("%s: Open = %v, %d, want none, %d", c.what, s, e, c.want)
		}
		if c.d != nil && c.d.Free() > 9 && e != api.ErrFull && (c.d.Bytes(1) != "not synced" || c.d.Synced(1) != 0) {
			t.Errorf("%s: the disk is changed", c.what)
		}
	}
	for node := range uint32(2) {
		if s, e := Open(node, config(), disk.New(14)); s == nil || e != api.OK {
			t.Errorf("Open(%d, ..) = %v, %d: a header has room", node, s, e)
		}
	}
}

// logOf makes a disk whose log holds records, and bytes behind them.
func logOf(t *testing.T, rest string, records ...api.Record) *disk.Disk {
	t.Helper()
	d := disk.New(maxRoom)
	l, _, _ := wal.Open(d)
	for _, r := range records {
		if e := l.Append(r); e != api.OK {
			t.Fatalf("Append(%v) = %d", r, e)
		}
	}
	d.Append(0, rest)
	d.Append(1, rest)
	return d
}

// P14.1: records that don't follow, of whatever kind; the log's recovery stays done.
func TestOpenRefusesBrokenLogs(t *testing.T) {
	mark := api.Record{Kind: api.RecMark, At: at(5, 0, 0)}
	for what, records := range map[string][]api.Record{
		"a mark twice":                 {mark, mark},
		"a commit of what is not held": {{Kind: api.RecDecide, Txn: t1, Outcome: api.Committed, At: at(5, 0, 0)}},
		"a prepare above the ceiling":  {{Kind: api.RecPrepare, Txn: t1, At: at(5, 0, 0), Writes: puts("a=1")}},
	} {
		d := logOf(t, "junk", records...)
		if s, e := Open(0, config(), d); s != nil || e != api.ErrBroken {
			t.Errorf("%s: Open = %v, %d, want none, ErrBroken", what, s, e)
		}
		if d.Bytes(1) != "" || strings.HasSuffix(d.Bytes(0), "junk") || d.Synced(0) != len(d.Bytes(0)) {
			t.Errorf("%s: the log was not recovered: %q, %q", what, d.Bytes(0), d.Bytes(1))
		}
	}
	for what, image := range map[string]string{"no image": "x", "another node's image": state.New(1).Image()} {
		d := disk.New(1000)
		l, _, _ := wal.Open(d)
		if e := l.Checkpoint(image); e != api.OK {
			t.Fatalf("Checkpoint = %d", e)
		}
		if s, e := Open(0, config(), d); s != nil || e != api.ErrBroken {
			t.Errorf("%s: Open = %v, %d, want none, ErrBroken", what, s, e)
		}
	}
}

// P14.1: what a shard is that comes up from a log.
func TestOpenFoldsTheLog(t *testing.T) {
	d := logOf(t, "junk",
		api.Record{Kind: api.RecReserve, Wall: 90},
		api.Record{Kind: api.RecPrepare, Txn: t1, Home: 1, At: at(5, 0, 0), Writes: puts("a=1")},
		api.Record{Kind: api.RecPrepare, Txn: t2, Home: 0, At: at(6, 0, 0), Reads: []api.Span{k}},
		api.Record{Kind: api.RecDecide, Txn: t1, Home: 1, Outcome: api.Committed, At: at(7, 0, 0)},
		api.Record{Kind: api.RecDecide, Txn: t3, Home: 1, Outcome: api.Aborted},
		api.Record{Kind: api.RecMark, At: at(300, 0, 0)})
	s := open(t, config(), d)
	wantClock(t, "opened", s, at(90, 0, 0), 90)
	wantHeld(t, "opened", s, api.Held{Txn: t2, At: at(6, 0, 0), Reads: []api.Span{k}})
	wantEntries(t, "opened", s, committed(t1, 1, at(7, 0, 0)), aborted(t3, 1))
	wantCounts(t, "opened", s, 0, 0, 1)
	if s.Watermark() != at(300, 0, 0) {
		t.Errorf("Watermark() = %v", s.Watermark())
	}
	wantOut(t, "a read of what stood", s.Deliver(readOf(2, 1, at(300, 0, 0), point("a"))))
	wantOut(t, "Sync", s.Sync(), dataOf(2, 1, at(300, 0, 0), api.OK, pairs("a=1")...))
	wantClock(t, "it goes on", s, at(300, 0, 0), 311)
	before := d.Bytes(0)
	again := open(t, config(), d)
	if again == s || d.Bytes(0) != before {
		t.Error("opened once more, the disk is changed")
	}
}

// P14.2: a reading changes nothing till the next tick.
func TestClockIsForTheNextStamp(t *testing.T) {
	s := fresh(t, config())
	before := show(s)
	s.Clock(70)
	s.Clock(40)
	if !show(s).same(before) {
		t.Errorf("Clock changes %v to %v", before, show(s))
	}
	s.Deliver(prepareOf(t1, 0, at(5, 0, 2), nil, puts("a=1")))
	wantOut(t, "Sync", s.Sync(), voteOf(t1, 0, api.OK, at(40, 0, 0)))
}

// P14.3: a message goes out when the log is durable up to where it ended when the message was made, not later and not ahead.
func TestNothingLeavesAheadOfTheLog(t *testing.T) {
	d := disk.New(10000)
	s := open(t, config(), d)
	s.Deliver(readOf(2, 1, at(50, 0, 2), k))                                         // it reserves up to 61
	wantOut(t, "a read that logs nothing", s.Deliver(readOf(2, 2, at(50, 0, 2), k))) // but stands on that
	wantOut(t, "a read that is refused", s.Deliver(readOf(2, 3, at(topWall, 0, 2), k)))
	wantCounts(t, "three wait", s, 3, 0, 0)
	wantOut(t, "Tick", s.Tick())
	wantOut(t, "no message at all", s.Deliver(api.Msg{}))
	wantOut(t, "Sync", s.Sync(), dataOf(2, 1, at(50, 0, 2), api.OK), dataOf(2, 2, at(50, 0, 2), api.OK), dataOf(2, 3, at(topWall, 0, 2), api.ErrExhausted))
	if d.Synced(0) != len(d.Bytes(0)) {
		t.Error("the disk is not synced")
	}
	wantOut(t, "now at once", s.Deliver(readOf(2, 3, at(topWall, 0, 2), k)), dataOf(2, 3, at(topWall, 0, 2), api.ErrExhausted))
	wantOut(t, "Sync", s.Sync())
}

// P14.4: a checkpoint changes nothing but the log, and what waits goes out with it.
func TestCheckpoint(t *testing.T) {
	d := disk.New(10000)
	s := open(t, config(), d)
	s.Deliver(prepareOf(t1, 0, at(5, 0, 2), nil, puts("k=x")))
	s.Sync()
	s.Deliver(readOf(3, 1, at(9, 0, 3), k))
	s.Deliver(queryOf(t3, 0))
	before := show(s)
	wantErrno(t, "Checkpoint", s.Checkpoint(), api.OK)
	wantErrno(t, "another one", s.Checkpoint(), api.ErrPending)
	if !show(s).same(before) {
		t.Errorf("Checkpoint changes %v to %v", before, show(s))
	}
	_, records := wal.Pick(d.Bytes(0), d.Bytes(1))
	if len(records) != 1 || records[0].Kind != api.RecImage {
		t.Fatalf("the new generation holds %v", records)
	}
	if folded, e := state.Replay(0, records); e != api.OK || len(folded.Held()) != 1 || len(folded.Entries()) != 1 {
		t.Errorf("the image is %v, %d", folded, e)
	}
	s.Deliver(learnOf(api.MsgTell, t1, 0, zero)) // behind the image
	for keep, want := range map[[2]int]int{{0, 0}: 0, {maxRoom, 0}: 1, {0, maxRoom}: 2} {
		twin := d.Clone()
		twin.Crash(keep[0], keep[1])
		if u := open(t, config(), twin); len(u.Entries()) != want {
			t.Errorf("a crash that keeps %v leaves %v, want %d", keep, u.Entries(), want)
		}
	}
	wantOut(t, "Sync", s.Sync(), tellOf(1, aborted(t3, 0)), dataOf(3, 1, at(9, 0, 3), api.OK))
	if d.Bytes(0) != "" {
		t.Error("the earlier generation is not let go")
	}
	wantErrno(t, "the next one", s.Checkpoint(), api.OK)
	wantErrno(t, "of a shard without a disk", new(Shard).Checkpoint(), api.ErrFull)
}

// big fills a shard with n transactions of sixteen short writes each: an image of them is longer than their records.
func big(t *testing.T, s *Shard, n int) {
	t.Helper()
	var writes []api.Write
	for i := range maxWrites {
		writes = append(writes, api.Write{Key: string(rune('a' + i))})
	}
	for i := range n {
		txn := api.Txn{Client: 2, Seq: 1 + uint32(i)}
		s.Deliver(prepareOf(txn, 0, zero, nil, writes))
		s.Deliver(commitOf(txn, 0, s.Last()))
	}
	if len(s.Entries()) != n || len(s.Held()) != 0 {
		t.Fatalf("there are %d entries, %d are held", len(s.Entries()), len(s.Held()))
	}
}

// P14.4: ErrFull and ErrRecord, and that they change nothing.
func TestCheckpointRefuses(t *testing.T) {
	for _, c := range []struct {
		transactions int
		want         api.Errno
	}{{1000, api.OK}, {2900, api.ErrFull}, {3200, api.ErrRecord}} {
		d := disk.New(maxRoom)
		s := open(t, config(), d)
		big(t, s, c.transactions)
		if size := len(s.state.Image()); c.want == api.ErrRecord != (size > maxImage) {
			t.Fatalf("the image has %d bytes", size)
		}
		before, bytes, count := show(s), d.Bytes(0), d.Used()
		wantErrno(t, "Checkpoint", s.Checkpoint(), c.want)
		if !show(s).same(before) || d.Bytes(0) != bytes || c.want != api.OK && d.Used() != count {
			t.Errorf("Checkpoint changes something")
		}
		wantOut(t, "Deliver", s.Deliver(readOf(2, 1, at(topWall, 0, 0), k)))
		if want := 2*c.transactions + 1; len(s.Sync()) != want {
			t.Errorf("not all of %d messages go out", want)
		}
	}
}

// A Shard as Go makes it: no disk, so no room; and nothing panics.
func TestTheZeroShard(t *testing.T) {
	s := new(Shard)
	s.Clock(5)
	wantOut(t, "Read", s.Deliver(readOf(2, 1, at(5, 0, 2), k)), dataOf(2, 1, at(5, 0, 2), api.ErrFull))
	wantOut(t, "Prepare", s.Deliver(prepareOf(t1, 0, at(5, 0, 2), nil, puts("k=x"))), voteOf(t1, 0, api.ErrFull, zero))
	wantNothing(t, s, queryOf(t1, 0), commitOf(t1, 0, at(9, 0, 0)), learnOf(api.MsgTell, t1, 1, zero))
	wantOut(t, "Tick", s.Tick())
	wantOut(t, "Sync", s.Sync())
	wantErrno(t, "Mark", s.Mark(at(5, 0, 0)), api.ErrFull)
	wantCounts(t, "all", s, 0, 0, 0)
	wantEntries(t, "all", s)
}

// What is no log without room is not taken for one.
func TestOtherPanicsGoOn(t *testing.T) {
	defer func() {
		if recover() != "another" {
			t.Error("a panic of another kind is hidden")
		}
	}()
	unlessFull(func() { panic("another") })
}
