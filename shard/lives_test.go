package shard

import (
	"math/rand"
	"slices"
	"strconv"
	"testing"

	"tidemark/api"
	"tidemark/disk"
	"tidemark/msg"
	"tidemark/state"
	"tidemark/wal"
)

const headerSize = 14 // of a generation below 128

// lifeKeys are few, so that transactions meet.
var lifeKeys = []string{"\x00", "a", "a\x00", "b", "m", "\xff"}

var lifeBounds = append([]string{"", "", "0", "aa", "c"}, lifeKeys...)

// life is a shard beside its model, through crashes, with all that was told.
type life struct {
	t      *testing.T
	r      *rand.Rand
	config api.Config
	disk   *disk.Disk
	s      *Shard
	m      *model
	bases  map[uint64]int // how many records stood ahead of a generation's image
	now    uint64         // physical readings and stamps are drawn near it
	seq    uint32
	op     uint32

	asked    map[uint32]api.Msg // reads by their Op: each Op stands for one span and stamp
	datas    map[asking]string
	served   api.Stamp // the greatest stamp of a Data that was told OK
	anyData  bool
	votes    map[api.Txn]api.Stamp
	outcomes map[api.Txn]api.Entry
	counts   map[string]int
}

type asking struct {
	span api.Span
	at   api.Stamp
}

func begin(t *testing.T, seed int64, capacity int, window uint64, counts map[string]int) *life {
	r := rand.New(rand.NewSource(seed))
	c := config()
	c.Park, c.Window = r.Intn(4), window
	l := &life{t: t, r: r, config: c, disk: disk.New(capacity), bases: map[uint64]int{1: 0}, now: 20,
		asked: map[uint32]api.Msg{}, datas: map[asking]string{}, votes: map[api.Txn]api.Stamp{}, outcomes: map[api.Txn]api.Entry{}, counts: counts}
	l.open(nil)
	return l
}

// open brings shard and model up, on these records.
func (l *life) open(records []api.Record) {
	l.t.Helper()
	l.s, l.m = open(l.t, l.config, l.disk), opened(0, l.config, records)
	l.wantAlike("Open")
}

// generation tells that which counts on a disk, and its records.
func generation(d *disk.Disk) (uint64, []api.Record) {
	slot, records := wal.Pick(d.Bytes(0), d.Bytes(1))
	g, _, _ := wal.Scan(d.Bytes(slot))
	return g, records
}

// kept is how many of all records stand on a disk.
func (l *life) kept(d *disk.Disk) int {
	g, records := generation(d)
	if g == 1 {
		return len(records)
	}
	return l.bases[g] + len(records) - 1 // the first one is the image
}

// crash loses what the draw says, and opens anew. All that was synced is there again.
func (l *life) crash() {
	keep := [2]int{}
	for i := range keep {
		switch l.r.Intn(3) {
		case 0:
			keep[i] = maxRoom
		case 1:
			keep[i] = l.r.Intn(200)
		}
	}
	synced := len(l.m.records) - l.m.end + l.m.synced
	l.disk.Crash(keep[0], keep[1])
	n := l.kept(l.disk)
	if n < synced || n > len(l.m.records) {
		l.t.Fatalf("%d records of %d were synced, %d come back", synced, len(l.m.records), n)
	}
	if n < len(l.m.records) {
		l.counts["crash that loses"]++
	}
	l.open(l.m.records[:n])
}

// wantAlike holds the shard to the model, by all that it tells and all that is on its disk.
func (l *life) wantAlike(what string) {
	l.t.Helper()
	m := l.m
	want := shown{m.last, m.ceiling, m.mark, len(m.outbox), m.parked, m.held, m.entries}
	if got := show(l.s); !got.same(want) {
		l.t.Fatalf("%s: the shard shows %v, want %v", what, got, want)
	}
	g, records := generation(l.disk)
	if g > 1 {
		folded, e := state.Replay(0, m.records[:l.bases[g]])
		if e != api.OK || records[0].Image != folded.Image() {
			l.t.Fatalf("%s: the image is not that of the records ahead of it", what)
		}
		records = records[1:]
	}
	same := func(a, b api.Record) bool {
		x, _ := wal.Encode(a)
		y, _ := wal.Encode(b)
		return x == y
	}
	if !slices.EqualFunc(records, m.records[l.bases[g]:], same) {
		l.t.Fatalf("%s: on the disk are %v, want %v", what, records, m.records[l.bases[g]:])
	}
}

// drawStamp gives a stamp near now.
func (l *life) drawStamp() api.Stamp {
	switch l.r.Intn(60) {
	case 0:
		return at(topWall, uint32(l.r.Intn(2)), 0)
	case 1:
		return zero
	}
	return at(l.now-uint64(l.r.Intn(20))+uint64(l.r.Intn(15)), uint32(l.r.Intn(3)), uint32(l.r.Intn(3)))
}

func (l *life) drawSpan() api.Span {
	s := api.Span{Lo: lifeBounds[l.r.Intn(len(lifeBounds))], Hi: lifeBounds[l.r.Intn(len(lifeBounds))]}
	if s.Hi != "" && s.Hi <= s.Lo {
		return point(lifeKeys[l.r.Intn(len(lifeKeys))])
	}
	return s
}

func (l *life) drawFootprint() ([]api.Span, []api.Write) {
	var reads []api.Span
	var writes []api.Write
	for range l.r.Intn(2) {
		reads = append(reads, l.drawSpan())
	}
	for _, key := range lifeKeys {
		switch l.r.Intn(10) {
		case 0:
			writes = append(writes, api.Write{Key: key, Delete: true})
		case 1, 2:
			writes = append(writes, api.Write{Key: key, Value: strconv.Itoa(l.r.Intn(100))})
		}
	}
	if len(reads)+len(writes) == 0 {
		return l.drawFootprint()
	}
	return reads, writes
}

// drawTxn gives one that is held, most times; else one from before, or a new one.
func (l *life) drawTxn() (api.Txn, uint32, api.Stamp) {
	if n := len(l.m.held); n > 0 && l.r.Intn(4) > 0 {
		h := l.m.held[l.r.Intn(n)]
		when := h.At
		switch l.r.Intn(5) {
		case 0:
			when = l.drawStamp()
		case 1, 2:
			when.Wall += uint64(l.r.Intn(5))
		}
		if l.r.Intn(12) == 0 {
			return h.Txn, 1 - h.Home, when
		}
		return h.Txn, h.Home, when
	}
	if l.seq > 0 && l.r.Intn(3) > 0 {
		seq := 1 + uint32(l.r.Intn(int(l.seq)))
		return api.Txn{Client: 2 + seq%2, Seq: seq}, uint32(l.r.Intn(2)), l.drawStamp()
	}
	l.seq++
	return api.Txn{Client: 2 + l.seq%2, Seq: l.seq}, uint32(l.r.Intn(2)), l.drawStamp()
}

func (l *life) drawRead() api.Msg {
	if l.op > 0 && l.r.Intn(2) == 0 {
		m := l.asked[1+uint32(l.r.Intn(int(l.op)))]
		if l.r.Intn(3) > 0 {
			return m // just as it was
		}
		l.op++
		m.Op = l.op // the same span and stamp, asked anew
		l.asked[l.op] = m
		return m
	}
	l.op++
	m := readOf(uint32(l.r.Intn(5)), l.op, l.drawStamp(), l.drawSpan())
	l.asked[l.op] = m
	return m
}

func (l *life) drawMsg() api.Msg {
	txn, home, when := l.drawTxn()
	switch l.r.Intn(13) {
	case 0, 1, 2, 3:
		return l.drawRead()
	case 4, 5, 6:
		reads, writes := l.drawFootprint()
		if l.r.Intn(4) > 0 { // a new one
			l.seq++
			txn = api.Txn{Client: 2 + l.seq%2, Seq: l.seq}
		}
		return prepareOf(txn, home, l.drawStamp(), reads, writes)
	case 7, 8:
		return commitOf(txn, home, when)
	case 9:
		return learnOf(api.MsgTell, txn, home, when)
	case 10:
		return learnOf(api.MsgDecide, txn, home, when)
	case 11:
		if l.r.Intn(3) > 0 {
			return learnOf(api.MsgDecide, txn, home, zero)
		}
		return queryOf(txn, home)
	}
	return l.drawWrong()
}

// drawWrong gives what is no message to this shard.
func (l *life) drawWrong() api.Msg {
	txn, home, when := l.drawTxn()
	switch l.r.Intn(5) {
	case 0:
		m := queryOf(txn, home)
		m.To = 1
		return m
	case 1:
		m := commitOf(txn, home, when)
		m.Op = 7
		return m
	case 2:
		return api.Msg{Kind: api.MsgDone, Txn: txn, Home: home, Outcome: api.Aborted}
	case 3:
		m := learnOf(api.MsgTell, txn, home, zero)
		m.Outcome = api.Unknown
		return m
	}
	return api.Msg{Kind: api.MsgVote, Txn: txn, Home: home, Status: api.OK, At: when}
}

// deliver hands a message over, to both, and looks whether what is held newly is above all that was read (P14.17).
func (l *life) deliver(n api.Msg) {
	l.t.Helper()
	_, before := l.m.holding(n.Txn)
	want := l.m.deliver(n, msg.Valid(n) == api.OK)
	got := l.s.Deliver(n)
	l.take(n, got, want)
	h, held := l.m.holding(n.Txn)
	if before || !held {
		return
	}
	if l.anyData && !above(h.At, l.served) || !above(h.At, n.At) {
		l.t.Fatalf("P14.17: %v is held at %v, and what started at %v was read at %v", n.Txn, h.At, n.At, l.served)
	}
}

// take looks at what has gone out.
func (l *life) take(what any, got, want []api.Msg) {
	l.t.Helper()
	if !slices.EqualFunc(got, want, sameMsg) {
		l.t.Fatalf("%v: there go out %v, want %v", what, got, want)
	}
	for _, n := range got {
		l.counts[word(n)]++
		if msg.Valid(n) != api.OK {
			l.t.Fatalf("P14.19: %v goes out", n)
		}
		switch n.Kind {
		case api.MsgData:
			l.data(n)
		case api.MsgVote:
			l.vote(n)
		case api.MsgDone, api.MsgTell:
			l.outcome(n)
		}
	}
	for txn := range l.votes {
		_, held := l.m.holding(txn)
		if _, known := l.m.known(txn); !held && !known {
			l.t.Fatalf("P14.16: %v was voted for, and is neither held nor decided", txn)
		}
	}
}

// word tells messages apart for the counts.
func word(n api.Msg) string {
	return "kind " + strconv.Itoa(int(n.Kind)) + " status " + strconv.Itoa(int(n.Status)) + " outcome " + strconv.Itoa(int(n.Outcome))
}

// data: P14.15.
func (l *life) data(n api.Msg) {
	if n.Status != api.OK {
		return
	}
	what, text := asking{l.asked[n.Op].Reads[0], n.At}, ""
	for _, p := range n.Pairs {
		text += strconv.Quote(p.Key) + strconv.Quote(p.Value)
	}
	before, there := l.datas[what]
	if there && before != text {
		l.t.Fatalf("P14.15: %v was %s, and is %s", what, before, text)
	}
	if there {
		l.counts["read again"]++
	}
	l.datas[what] = text
	if !l.anyData || above(n.At, l.served) {
		l.anyData, l.served = true, n.At
	}
}

// vote: P14.16, P14.17.
func (l *life) vote(n api.Msg) {
	if n.Status != api.OK {
		return
	}
	before, there := l.votes[n.Txn]
	if there && before != n.At {
		l.t.Fatalf("P14.16: %v was voted for at %v, and at %v", n.Txn, before, n.At)
	}
	for txn, when := range l.votes {
		if txn != n.Txn && when == n.At {
			l.t.Fatalf("P14.17: %v and %v have %v", txn, n.Txn, when)
		}
	}
	if there {
		l.counts["voted again"]++
	}
	l.votes[n.Txn] = n.At
}

// outcome: P14.16.
func (l *life) outcome(n api.Msg) {
	e := api.Entry{Txn: n.Txn, Outcome: n.Outcome, At: n.At}
	before, there := l.outcomes[n.Txn]
	if there && before != e {
		l.t.Fatalf("P14.16: %v was told, and %v", before, e)
	}
	if there {
		l.counts["told again"]++
	}
	l.outcomes[n.Txn] = e
}

func (l *life) sync() {
	l.t.Helper()
	want := l.m.sync()
	l.take("Sync", l.s.Sync(), want)
}

func (l *life) checkpoint() {
	l.t.Helper()
	want := l.m.checkpoint(headerSize)
	if want == api.OK {
		l.bases[l.s.log.Generation()+1] = len(l.m.records)
	}
	wantErrno(l.t, "Checkpoint", l.s.Checkpoint(), want)
	l.counts["Checkpoint "+strconv.Itoa(int(want))]++
}

// step is any call.
func (l *life) step() {
	l.t.Helper()
	l.m.room = l.disk.Free()
	l.now += uint64(l.r.Intn(3))
	switch l.r.Intn(40) {
	case 0:
		l.crash()
	case 1:
		l.checkpoint()
	case 2:
		w := l.drawStamp()
		want := l.m.markAt(w)
		wantErrno(l.t, "Mark", l.s.Mark(w), want)
		l.counts["Mark "+strconv.Itoa(int(want))]++
	case 3, 4:
		want := l.m.timer()
		l.take("Tick", l.s.Tick(), want)
	case 5, 6, 7:
		l.m.reading = l.now + uint64(l.r.Intn(9)) - uint64(l.r.Intn(9))
		l.s.Clock(l.m.reading)
	case 8, 9, 10, 11, 12, 13, 14:
		l.sync()
	default:
		l.deliver(l.drawMsg())
	}
	l.wantAlike("a step")
}

// rest: P14.18, where the disk has room.
func (l *life) rest() {
	l.t.Helper()
	for op := range uint32(3) {
		l.s.Deliver(readOf(9, op, at(l.now+30, 0, 0), whole))
	}
	list := append(l.s.Tick(), l.s.Sync()...)
	parked := len(l.s.Parked())
	for _, n := range list {
		if n.Kind != api.MsgQuery {
			continue
		}
		when := zero
		if h, there := l.m.holding(n.Txn); there && l.r.Intn(2) == 0 {
			when = h.At
		}
		tell := learnOf(api.MsgTell, n.Txn, n.Home, when)
		tell.From = n.To
		l.s.Deliver(tell)
		l.counts["rest"]++
	}
	if len(l.s.Held()) != 0 || len(l.s.Parked()) != 0 {
		l.t.Fatalf("P14.18: held are %v, parked %v", l.s.Held(), l.s.Parked())
	}
	l.counts["rest of parked reads"] += parked
}

// P14.1 to P14.13 against the model, P14.15 to P14.19 of all that was told, over crashes. Where the disk is small it is full soon, and a checkpoint makes room.
func TestLivesAreAsTheModelSays(t *testing.T) {
	counts := map[string]int{}
	windows := []uint64{10, 0, 3, 1 << 40, topWall - 30, topWall}
	for seed := range int64(480) {
		capacity := []int{maxRoom, 700, maxRoom, 2500}[seed%4]
		l := begin(t, seed, capacity, windows[seed/4%6], counts)
		for range 160 {
			l.step()
		}
		if capacity == maxRoom {
			l.rest()
		}
	}
	wantCounted(t, counts,
		"crash that loses", "rest", "rest of parked reads", "read again", "voted again", "told again",
		"Checkpoint 0", "Checkpoint 60", "Checkpoint 71", "Mark 0", "Mark 11", "Mark 60", "Mark 90",
		"kind 2 status 0 outcome 0", "kind 2 status 11 outcome 0", "kind 2 status 60 outcome 0", "kind 2 status 90 outcome 0", "kind 2 status 140 outcome 0",
		"kind 4 status 0 outcome 0", "kind 4 status 11 outcome 0", "kind 4 status 60 outcome 0", "kind 4 status 90 outcome 0",
		"kind 4 status 100 outcome 0", "kind 4 status 141 outcome 0", "kind 4 status 164 outcome 0",
		"kind 6 status 0 outcome 1", "kind 6 status 0 outcome 2", "kind 8 status 0 outcome 0", "kind 9 status 0 outcome 1", "kind 9 status 0 outcome 2")
}

// wantCounted sees to it that what was drawn has met each thing often enough to tell.
func wantCounted(t *testing.T, counts map[string]int, things ...string) {
	t.Helper()
	for _, thing := range things {
		if counts[thing] < 20 {
			t.Errorf("%s was met %d times", thing, counts[thing])
		}
	}
}

// P14.15, P14.17 at the clock's end, where stamps give out.
func TestLivesAtTheClocksEnd(t *testing.T) {
	counts := map[string]int{}
	for seed := range int64(80) {
		l := begin(t, seed, maxRoom, 3, counts)
		l.now = topWall - 60
		for range 100 {
			l.step()
		}
	}
	wantCounted(t, counts, "kind 4 status 0 outcome 0", "kind 4 status 11 outcome 0", "kind 2 status 11 outcome 0", "kind 2 status 0 outcome 0")
}

// Two runs are alike, and two shards share nothing.
func TestTwoRunsAreAlike(t *testing.T) {
	for seed := range int64(10) {
		a, b := begin(t, seed, 2500, 10, map[string]int{}), begin(t, seed, 2500, 10, map[string]int{})
		for range 120 {
			a.step()
			b.step()
		}
		if !show(a.s).same(show(b.s)) || a.disk.Bytes(0) != b.disk.Bytes(0) || a.disk.Bytes(1) != b.disk.Bytes(1) {
			t.Errorf("seed %d: two runs are not alike", seed)
		}
	}
}
