package state

import (
	"reflect"
	"slices"
	"strings"
	"testing"

	"tidemark/api"
)

// Limits of DOC.md and chapter 7, told apart from api's constants.
const (
	topWall   = 1<<64 - 1
	topNumber = 1<<32 - 1
	maxKey    = 32
	maxBound  = 33
	maxValue  = 64
	maxList   = 16 // of reads, of writes
	maxPairs  = 512
	maxImage  = 1048560
)

var (
	whole = api.Span{}
	zero  = api.Stamp{}
	last  = api.Stamp{Wall: topWall - 1, Logical: topNumber, Node: topNumber} // the greatest usable stamp
	end   = api.Stamp{Wall: topWall, Logical: topNumber, Node: topNumber}
)

func id(client, seq uint32) api.Txn { return api.Txn{Client: client, Seq: seq} }

func at(wall uint64, logical, node uint32) api.Stamp {
	return api.Stamp{Wall: wall, Logical: logical, Node: node}
}

func span(lo, hi string) api.Span { return api.Span{Lo: lo, Hi: hi} }

func spans(list ...api.Span) []api.Span { return list }

func points(keys ...string) []api.Span {
	var list []api.Span
	for _, key := range keys {
		list = append(list, span(key, key+"\x00"))
	}
	return list
}

// puts makes writes of texts like a=1; a text without a sign is a deletion.
func puts(texts ...string) []api.Write {
	var list []api.Write
	for _, text := range texts {
		key, value, put := strings.Cut(text, "=")
		list = append(list, api.Write{Key: key, Delete: !put, Value: value})
	}
	return list
}

func reserve(wall uint64) api.Record { return api.Record{Kind: api.RecReserve, Wall: wall} }

func prepare(txn api.Txn, home uint32, when api.Stamp, reads []api.Span, writes []api.Write) api.Record {
	return api.Record{Kind: api.RecPrepare, Txn: txn, Home: home, At: when, Reads: reads, Writes: writes}
}

func commit(txn api.Txn, home uint32, when api.Stamp) api.Record {
	return api.Record{Kind: api.RecDecide, Txn: txn, Home: home, Outcome: api.Committed, At: when}
}

func abort(txn api.Txn, home uint32) api.Record {
	return api.Record{Kind: api.RecDecide, Txn: txn, Home: home, Outcome: api.Aborted}
}

func mark(when api.Stamp) api.Record { return api.Record{Kind: api.RecMark, At: when} }

func image(bytes string) api.Record { return api.Record{Kind: api.RecImage, Image: bytes} }

func version(key string, when api.Stamp, value string) api.Version {
	return api.Version{Key: key, At: when, Value: value}
}

func tombstone(key string, when api.Stamp) api.Version {
	return api.Version{Key: key, At: when, Delete: true}
}

// sameHeld takes a nil list and an empty one for the same.
func sameHeld(a, b api.Held) bool {
	return a.Txn == b.Txn && a.Home == b.Home && a.At == b.At && slices.Equal(a.Reads, b.Reads) && slices.Equal(a.Writes, b.Writes)
}

// made is the state of node 1 of records that are all taken.
func made(t *testing.T, records ...api.Record) *State {
	t.Helper()
	s, e := Replay(1, records)
	if s == nil || e != api.OK {
		t.Fatalf("Replay(1, %v) = %v, %d", records, s, e)
	}
	return s
}

// loaded is the state of node 1 that an image gives.
func loaded(t *testing.T, bytes string) *State {
	t.Helper()
	s, e := Load(1, bytes)
	if s == nil || e != api.OK {
		t.Fatalf("Load(1, %x) = %v, %d", bytes, s, e)
	}
	return s
}

// told is a content as its state tells it, call by call.
func told(node uint32, s *State) model {
	return model{node: node, ceiling: s.Ceiling(), mark: s.Watermark(), held: s.Held(), entries: s.Entries(), versions: s.Versions()}
}

// wantApply sees to it that a refusal changes nothing.
func wantApply(t *testing.T, s *State, r api.Record, want api.Errno) {
	t.Helper()
	before, bytes := told(1, s), s.Image()
	if got := s.Apply(r); got != want {
		t.Errorf("Apply(%.300v) = %d, want %d", r, got, want)
	}
	if want != api.OK && (!told(1, s).same(before) || s.Image() != bytes) {
		t.Errorf("Apply(%.300v) is refused and changes the state", r)
	}
}

// wantRefused is for a state that must refuse each of the records.
func wantRefused(t *testing.T, s *State, want api.Errno, records ...api.Record) {
	t.Helper()
	for _, r := range records {
		wantApply(t, s, r, want)
	}
}

func wantCheck(t *testing.T, s *State, txn api.Txn, start api.Stamp, reads []api.Span, writes []api.Write, want api.Errno) {
	t.Helper()
	before := s.Image()
	if got := s.Check(txn, start, reads, writes); got != want {
		t.Errorf("Check(%v, %v, %q, %v) = %d, want %d", txn, start, reads, writes, got, want)
	}
	if s.Image() != before {
		t.Errorf("Check(%v, %v, %q, %v) changes the state", txn, start, reads, writes)
	}
}

// wantRead takes pairs as texts like a=1.
func wantRead(t *testing.T, s *State, asked api.Span, when api.Stamp, e api.Errno, want ...string) {
	t.Helper()
	list, f := s.Read(asked, when)
	var got []string
	for _, p := range list {
		got = append(got, p.Key+"="+p.Value)
	}
	if f != e || !slices.Equal(got, want) {
		t.Errorf("Read(%q, %v) = %q, %d, want %q, %d", asked, when, got, f, want, e)
	}
}

func wantBlocks(t *testing.T, s *State, asked api.Span, when api.Stamp, want ...api.Txn) {
	t.Helper()
	if got := s.Blocks(asked, when); !slices.Equal(got, want) {
		t.Errorf("Blocks(%q, %v) = %v, want %v", asked, when, got, want)
	}
}

// wantContent holds all that a state tells of its content, with Get and Outcome of each transaction, against what it must be.
func wantContent(t *testing.T, s *State, want model) {
	t.Helper()
	if got := told(want.node, s); !got.same(want) {
		t.Errorf("the content is %v, want %v", got, want)
	}
	for _, h := range want.held {
		if got, there := s.Get(h.Txn); !there || !sameHeld(got, h) {
			t.Errorf("Get(%v) = %v, %v, want %v", h.Txn, got, there, h)
		}
		wantNoOutcome(t, s, h.Txn)
	}
	for _, e := range want.entries {
		if got, there := s.Outcome(e.Txn); !there || got != e {
			t.Errorf("Outcome(%v) = %v, %v, want %v", e.Txn, got, there, e)
		}
		wantNotHeld(t, s, e.Txn)
	}
}

func wantNotHeld(t *testing.T, s *State, txn api.Txn) {
	t.Helper()
	if got, there := s.Get(txn); there || !reflect.DeepEqual(got, api.Held{}) {
		t.Errorf("Get(%v) = %v, %v, want nothing", txn, got, there)
	}
}

func wantNoOutcome(t *testing.T, s *State, txn api.Txn) {
	t.Helper()
	if got, there := s.Outcome(txn); there || got != (api.Entry{}) {
		t.Errorf("Outcome(%v) = %v, %v, want nothing", txn, got, there)
	}
}

var (
	t1 = id(3, 1)
	t2 = id(3, 2)
	t3 = id(4, 1)
)

// P13.2, P13.4 to P13.8: the chapter's examples, one behind the other.
func TestTheExamples(t *testing.T) {
	s := New(1)
	if got := s.Image(); got != "\x01\x00"+strings.Repeat("\x00", 16)+"\x00\x00\x00" {
		t.Errorf("Image() = %x", got)
	}
	wantApply(t, s, prepare(t1, 1, at(5, 0, 1), nil, puts("a=1")), api.ErrBroken)
	wantApply(t, s, reserve(10), api.OK)
	wantApply(t, s, reserve(10), api.ErrBroken)
	wantApply(t, s, prepare(t1, 1, at(5, 0, 1), points("b"), puts("a=1")), api.OK)
	wantApply(t, s, prepare(t2, 1, at(6, 0, 1), nil, puts("b=2")), api.ErrBroken)
	wantCheck(t, s, t2, at(4, 0, 3), nil, puts("b=2"), api.ErrConflict)
	wantCheck(t, s, t2, at(4, 0, 3), points("b"), puts("c=1"), api.OK)
	wantBlocks(t, s, whole, at(5, 0, 0))
	wantBlocks(t, s, whole, at(5, 0, 1), t1)
	wantApply(t, s, commit(t1, 1, at(4, 9, 0)), api.ErrBroken)
	wantApply(t, s, commit(t1, 0, at(7, 0, 0)), api.ErrBroken)
	wantApply(t, s, commit(t1, 1, at(10, 0, 0)), api.ErrBroken)
	wantApply(t, s, commit(t1, 1, at(7, 0, 0)), api.OK)
	wantApply(t, s, abort(t1, 1), api.ErrBroken)
	wantApply(t, s, abort(t3, 0), api.OK)
	wantApply(t, s, prepare(t3, 0, at(8, 0, 1), nil, puts("c=1")), api.ErrBroken)
	wantApply(t, s, prepare(t2, 1, at(7, 0, 0), nil, puts("c=1")), api.ErrBroken)
	wantRead(t, s, whole, at(6, 9, 9), api.OK)
	wantRead(t, s, whole, at(7, 0, 0), api.OK, "a=1")
	wantCheck(t, s, t2, at(6, 0, 3), points("a"), nil, api.ErrStale)
	wantCheck(t, s, t2, at(7, 0, 3), points("a"), nil, api.OK)
	wantApply(t, s, mark(at(7, 0, 0)), api.OK)
	wantApply(t, s, mark(at(6, 0, 0)), api.ErrBroken)
	wantRead(t, s, whole, at(6, 0, 0), api.ErrOld)
	wantCheck(t, s, t2, at(6, 0, 3), points("a"), nil, api.ErrOld)
	wantCheck(t, s, t2, at(6, 0, 3), nil, puts("a=2"), api.OK)
	wantApply(t, s, image(""), api.ErrBroken)
	for node, bytes := range map[uint32]string{1: "", 2: s.Image()} {
		if x, e := Load(node, bytes); x != nil || e != api.ErrImage {
			t.Errorf("Load(%d, %x) = %v, %d", node, bytes, x, e)
		}
	}
	want := model{node: 1, ceiling: 10, mark: at(7, 0, 0), versions: []api.Version{version("a", at(7, 0, 0), "1")}}
	want.entries = []api.Entry{{Txn: t1, Home: 1, Outcome: api.Committed, At: at(7, 0, 0)}, {Txn: t3, Outcome: api.Aborted}}
	wantContent(t, s, want)
	wantContent(t, loaded(t, s.Image()), want)
}

// P13.1
func TestANewStateIsEmpty(t *testing.T) {
	for _, node := range []uint32{0, 1, 127, 128, topNumber} {
		s := New(node)
		wantContent(t, s, model{node: node})
		wantNotHeld(t, s, t1)
		wantNoOutcome(t, s, t1)
		wantRead(t, s, whole, zero, api.OK)
		wantRead(t, s, whole, end, api.OK)
		wantBlocks(t, s, whole, end)
		if got := s.Image(); got != (model{node: node}).image() {
			t.Errorf("Image() of node %d = %x", node, got)
		}
	}
}

// P13.2: what wal.Valid refuses is refused ahead of all else, of each kind.
func TestWhatIsNoRecordIsRefused(t *testing.T) {
	s := made(t, reserve(10), prepare(t1, 1, at(5, 0, 1), nil, puts("a=1")))
	homed := reserve(20)
	homed.Home = 1
	withImage := mark(at(6, 0, 0))
	withImage.Image = "x"
	unknown := commit(t1, 1, at(6, 0, 0))
	unknown.Outcome = api.Unknown
	stamped := abort(t1, 1)
	stamped.At = at(6, 0, 0)
	for _, x := range []*State{s, New(1)} {
		wantRefused(t, x, api.ErrRecord, api.Record{}, api.Record{Kind: 6}, api.Record{Kind: -1}, api.Record{Kind: 1 << 40},
			homed, withImage, unknown, stamped,
			prepare(id(3, 0), 1, at(6, 0, 1), nil, puts("b=1")),
			prepare(t2, 1, at(6, 0, 1), nil, nil),
			prepare(t2, 1, at(topWall, 0, 1), nil, puts("b=1")),
			prepare(t2, 1, at(6, 0, 1), nil, puts("b=1", "b=1")),
			prepare(t2, 1, at(6, 0, 1), spans(span("b", "a")), nil),
			commit(t1, 1, at(topWall, 0, 0)), commit(id(3, 0), 1, at(6, 0, 0)), abort(id(3, 0), 1),
			mark(at(topWall, 0, 0)), image(strings.Repeat("\x00", maxImage+1)))
	}
	wantApply(t, New(1), image(strings.Repeat("\x00", maxImage)), api.ErrImage)
}

// P13.2, RecReserve
func TestTheCeilingRises(t *testing.T) {
	s := New(1)
	wantApply(t, s, reserve(0), api.ErrBroken)
	for _, wall := range []uint64{1, 2, 300, topWall - 1, topWall} {
		wantApply(t, s, reserve(wall), api.OK)
		wantContent(t, s, model{node: 1, ceiling: wall})
		wantRefused(t, s, api.ErrBroken, reserve(0), reserve(wall-1), reserve(wall))
	}
}

// P13.2, RecPrepare: what is held is just what the record says.
func TestAPrepareIsHeld(t *testing.T) {
	s := made(t, reserve(10))
	reads, writes := spans(span("x", ""), span("", "a"), span("x", "")), puts("b=1", "c", "d=")
	wantApply(t, s, prepare(t2, 7, at(9, topNumber, topNumber), reads, writes), api.OK)
	wantApply(t, s, prepare(t1, topNumber, zero, spans(span("", "a")), nil), api.OK)
	wantApply(t, s, prepare(id(topNumber, topNumber), 0, zero, nil, puts("m=1")), api.OK)
	wantContent(t, s, model{node: 1, ceiling: 10, held: []api.Held{
		{Txn: t1, Home: topNumber, Reads: spans(span("", "a"))},
		{Txn: t2, Home: 7, At: at(9, topNumber, topNumber), Reads: reads, Writes: writes},
		{Txn: id(topNumber, topNumber), Writes: puts("m=1")},
	}})
}

// P13.2, RecPrepare: each reason by itself.
func TestAPrepareThatCannotFollow(t *testing.T) {
	s := made(t, reserve(10),
		prepare(id(2, 1), 1, at(2, 0, 0), nil, puts("a=1")), commit(id(2, 1), 1, at(4, 2, 2)),
		prepare(id(2, 3), 1, at(5, 0, 0), spans(span("r", "s")), puts("w=1")),
		abort(id(2, 2), 1))
	fine := prepare(t1, 1, at(5, 0, 0), points("a"), puts("b=1"))
	if e := loaded(t, s.Image()).Apply(fine); e != api.OK {
		t.Fatalf("Apply(%v) = %d", fine, e)
	}
	for _, txn := range []api.Txn{id(2, 1), id(2, 2), id(2, 3)} { // committed, aborted, held
		r := fine
		r.Txn = txn
		wantApply(t, s, r, api.ErrBroken)
	}
	for _, when := range []api.Stamp{at(10, 0, 0), at(11, 0, 0), last, at(4, 2, 2), at(4, 2, 1), at(4, 1, 9), at(3, 9, 9), zero} {
		r := fine
		r.At = when
		wantApply(t, s, r, api.ErrBroken)
	}
	for _, when := range []api.Stamp{at(9, topNumber, topNumber), at(4, 2, 3)} {
		r := fine
		r.At = when
		wantApply(t, loaded(t, s.Image()), r, api.OK)
	}
	// What meets: both write w, w is read, r is written that is read there.
	wantRefused(t, s, api.ErrBroken,
		prepare(t1, 1, at(6, 0, 0), nil, puts("v=1", "w=1")), prepare(t1, 1, at(6, 0, 0), spans(whole), nil), prepare(t1, 1, at(6, 0, 0), nil, puts("r")))
	for _, r := range []api.Record{
		prepare(t1, 1, at(6, 0, 0), spans(span("r", "s"), span("x", "")), nil), prepare(t1, 1, at(6, 0, 0), points("w\x00"), puts("s=1", "w\x00=1"))} {
		wantApply(t, loaded(t, s.Image()), r, api.OK)
	}
}

// P13.2, RecPrepare: a version may stand without an entry (an image may say so), and is in the way by itself.
func TestAPrepareBelowAVersionCannotFollow(t *testing.T) {
	m := model{node: 1, ceiling: 10, versions: []api.Version{tombstone("a", zero), version("b", at(4, 2, 2), "1"), version("c", zero, "1"), version("c", at(0, 0, 1), "1"), tombstone("d", at(5, 0, 0)), version("e", at(5, 1, 0), "1"), version("f", at(5, 0, topNumber), "1"), version("g", at(5, topNumber, topNumber), "1")}}
	s := loaded(t, m.image())
	wantRefused(t, s, api.ErrBroken,
		prepare(t1, 1, zero, nil, puts("a=1")), prepare(t1, 1, zero, nil, puts("b=1")), prepare(t1, 1, zero, nil, puts("c=1")), prepare(t1, 1, zero, nil, puts("Z=1", "c")),
		prepare(t1, 1, at(0, 0, 1), nil, puts("c=1")), prepare(t1, 1, at(4, 2, 2), nil, puts("b=1")), prepare(t1, 1, at(4, 2, 1), nil, puts("b")),
		prepare(t1, 1, at(4, 1, topNumber), nil, puts("b=1")), prepare(t1, 1, at(3, topNumber, topNumber), nil, puts("a=1", "b=1", "c=1")),
		prepare(t1, 1, at(5, 0, 0), nil, puts("d=1")), prepare(t1, 1, at(4, topNumber, topNumber), nil, puts("d=1")),
		prepare(t1, 1, at(5, 1, 0), nil, puts("e=1")), prepare(t1, 1, at(5, 0, topNumber), nil, puts("e=1")),
		prepare(t1, 1, at(5, 0, topNumber), nil, puts("f=1")), prepare(t1, 1, at(5, topNumber, topNumber), nil, puts("g=1")))
	for _, r := range []api.Record{
		prepare(t1, 1, zero, spans(whole), nil), prepare(t1, 1, zero, nil, puts("A", "a\x00=1")), prepare(t1, 1, at(0, 0, 1), nil, puts("a=1")),
		prepare(t1, 1, at(0, 0, 2), nil, puts("c=1")), prepare(t1, 1, at(4, 2, 3), nil, puts("a=1", "b=1", "c=1")), prepare(t1, 1, at(4, 3, 0), nil, puts("b=1")),
		prepare(t1, 1, at(5, 0, 0), nil, puts("b=1")), prepare(t1, 1, at(5, 0, 1), nil, puts("d=1")), prepare(t1, 1, at(5, 1, 1), nil, puts("e=1")),
		prepare(t1, 1, at(5, 1, 0), nil, puts("f=1")), prepare(t1, 1, at(6, 0, 0), nil, puts("f=1", "g=1"))} {
		wantApply(t, loaded(t, m.image()), r, api.OK)
	}
}

// P13.2, RecDecide with Committed
func TestACommit(t *testing.T) {
	s := made(t, reserve(10),
		prepare(t1, 1, at(5, 0, 1), points("r"), puts("a=1", "b")), prepare(t2, 0, at(6, 0, 1), nil, puts("c=")), prepare(t3, 1, at(6, 0, 1), points("r"), nil))
	wantRefused(t, s, api.ErrBroken, commit(id(9, 9), 1, at(7, 0, 0)), commit(t1, 0, at(7, 0, 0)), commit(t2, 1, at(7, 0, 0)),
		commit(t1, 1, at(5, 0, 0)), commit(t1, 1, at(4, 9, 9)), commit(t1, 1, zero), commit(t1, 1, at(10, 0, 0)), commit(t1, 1, last))
	held := s.Held()
	wantApply(t, s, commit(t1, 1, at(5, 0, 1)), api.OK) // the stamp that it is held at, just allowed
	first := api.Entry{Txn: t1, Home: 1, Outcome: api.Committed, At: at(5, 0, 1)}
	wantContent(t, s, model{node: 1, ceiling: 10, held: held[1:], entries: []api.Entry{first},
		versions: []api.Version{version("a", at(5, 0, 1), "1"), tombstone("b", at(5, 0, 1))}})
	wantRefused(t, s, api.ErrBroken, commit(t1, 1, at(5, 0, 1)), commit(t1, 1, at(7, 0, 0)))

	wantApply(t, s, commit(t2, 0, at(9, topNumber, topNumber)), api.OK)
	wantApply(t, s, commit(t3, 1, at(6, 0, 1)), api.OK) // it has no write: an entry alone
	second := api.Entry{Txn: t2, Home: 0, Outcome: api.Committed, At: at(9, topNumber, topNumber)}
	third := api.Entry{Txn: t3, Home: 1, Outcome: api.Committed, At: at(6, 0, 1)}
	wantContent(t, s, model{node: 1, ceiling: 10, entries: []api.Entry{first, second, third},
		versions: []api.Version{version("a", at(5, 0, 1), "1"), tombstone("b", at(5, 0, 1)), version("c", at(9, topNumber, topNumber), "")}})
	// The greatest commit counts, not the last one.
	wantApply(t, s, reserve(11), api.OK)
	wantApply(t, s, prepare(id(9, 9), 1, at(9, topNumber, topNumber), nil, puts("r=1")), api.ErrBroken)
	wantApply(t, s, prepare(id(9, 9), 1, at(10, 0, 0), nil, puts("r=1")), api.OK) // what t1 and t3 had read is free
}

// P13.2, RecPrepare: with no commit every stamp is above all; with one at the zero stamp the zero stamp is not.
func TestACommitAtTheZeroStamp(t *testing.T) {
	s := made(t, reserve(1), abort(t3, 1), prepare(t1, 1, zero, nil, puts("a=1")), prepare(t2, 1, zero, nil, puts("b=1")), commit(t1, 1, zero))
	wantApply(t, s, prepare(t3, 1, zero, nil, puts("c=1")), api.ErrBroken)
	wantApply(t, s, prepare(id(9, 9), 1, zero, nil, puts("c=1")), api.ErrBroken)
	wantApply(t, loaded(t, s.Image()), prepare(id(9, 9), 1, zero, nil, puts("c=1")), api.ErrBroken)
	wantApply(t, s, commit(t2, 1, zero), api.OK) // two commits may have one stamp here
	wantRead(t, s, whole, zero, api.OK, "a=1", "b=1")
	wantApply(t, s, prepare(id(9, 9), 1, at(0, 0, 1), nil, puts("a=1")), api.OK)
}

// P13.2, RecDecide with Aborted
func TestAnAbort(t *testing.T) {
	s := made(t, abort(t3, 9)) // nothing is reserved, nothing held
	entries := []api.Entry{{Txn: t3, Home: 9, Outcome: api.Aborted}}
	wantContent(t, s, model{node: 1, entries: entries})
	wantRefused(t, s, api.ErrBroken, abort(t3, 9), abort(t3, 0), commit(t3, 9, at(1, 0, 0)))
	wantApply(t, s, reserve(10), api.OK)
	wantApply(t, s, prepare(t1, 1, at(5, 0, 1), points("b"), puts("a=1")), api.OK)
	wantApply(t, s, abort(t1, 2), api.OK) // with another home: the record's stands
	wantContent(t, s, model{node: 1, ceiling: 10, entries: append([]api.Entry{{Txn: t1, Home: 2, Outcome: api.Aborted}}, entries...)})
	wantRead(t, s, whole, end, api.OK)
	wantApply(t, s, prepare(t2, 1, at(5, 0, 1), points("a"), puts("b=1")), api.OK) // what was held is free, and an abort has no stamp to be above
}

// P13.2, RecMark
func TestAMark(t *testing.T) {
	s := made(t, reserve(10),
		prepare(id(2, 1), 1, at(1, 0, 0), nil, puts("a=1", "b=1", "c=1")), commit(id(2, 1), 1, at(1, 0, 0)),
		prepare(id(2, 2), 1, at(2, 0, 0), nil, puts("a=2", "b")), commit(id(2, 2), 1, at(2, 0, 0)),
		prepare(id(2, 3), 1, at(3, 0, 0), nil, puts("a=3")), commit(id(2, 3), 1, at(3, 0, 0)),
		prepare(id(2, 4), 1, at(4, 0, 0), nil, puts("c=4")))
	held, entries := s.Held(), s.Entries()
	wantApply(t, s, mark(zero), api.ErrBroken)
	wantApply(t, s, mark(at(2, 0, 0)), api.OK)
	wantContent(t, s, model{node: 1, ceiling: 10, mark: at(2, 0, 0), held: held, entries: entries,
		versions: []api.Version{version("a", at(2, 0, 0), "2"), version("a", at(3, 0, 0), "3"), version("c", at(1, 0, 0), "1")}})
	wantRefused(t, s, api.ErrBroken, mark(at(2, 0, 0)), mark(at(1, 9, 9)), mark(zero))
	wantRead(t, s, whole, at(1, 9, 9), api.ErrOld)
	wantRead(t, s, whole, at(2, 0, 0), api.OK, "a=2", "c=1")
	wantApply(t, s, mark(last), api.OK) // above the ceiling and above what is held: no fault
	wantContent(t, s, model{node: 1, ceiling: 10, mark: last, held: held, entries: entries,
		versions: []api.Version{version("a", at(3, 0, 0), "3"), version("c", at(1, 0, 0), "1")}})
	wantApply(t, s, commit(id(2, 4), 1, at(5, 0, 0)), api.OK)
	wantRead(t, s, whole, end, api.OK, "a=3", "c=4")
}

// P13.2, RecImage
func TestAnImageIsForAnEmptyStateAlone(t *testing.T) {
	m := soundContent()
	for _, r := range []api.Record{reserve(1), abort(t1, 1), mark(at(0, 0, 1)), image(m.image())} {
		s := made(t, r)
		wantRefused(t, s, api.ErrBroken, image(m.image()), image(""), image(model{node: 1}.image()))
	}
	s := New(1)
	spoilt := m
	spoilt.ceiling = 1
	wantRefused(t, s, api.ErrImage, image(""), image("x"), image(m.image()+"\x00"), image(spoilt.image()), image(model{node: 2}.image()))
	wantApply(t, s, image(model{node: 1}.image()), api.OK) // that of an empty state leaves it empty
	wantApply(t, s, image(m.image()), api.OK)
	wantContent(t, s, m)
	if s.Image() != m.image() {
		t.Errorf("Image() = %x, want %x", s.Image(), m.image())
	}
}

// P13.3
func TestReplay(t *testing.T) {
	if s, e := Replay(5, nil); e != api.OK || s == nil || s.Image() != New(5).Image() {
		t.Errorf("Replay(5, nil) = %v, %d", s, e)
	}
	records := []api.Record{reserve(10), prepare(t1, 1, at(5, 0, 1), nil, puts("a=1")), commit(t1, 1, at(5, 0, 1)), mark(at(5, 0, 1)), reserve(20)}
	s := New(1)
	for i, r := range records {
		wantApply(t, s, r, api.OK)
		if got := made(t, records[:i+1]...); got.Image() != s.Image() {
			t.Errorf("Replay of %d records = %x, want %x", i+1, got.Image(), s.Image())
		}
	}
	for i, e := range []api.Errno{api.ErrBroken, api.ErrRecord, api.ErrImage} {
		bad := [][]api.Record{{reserve(5), reserve(5), {}}, {reserve(5), {}, reserve(5)}, {image("x"), {}, reserve(5)}}[i]
		if s, got := Replay(1, bad); s != nil || got != e {
			t.Errorf("Replay(1, %v) = %v, %d, want nil, %d", bad, s, got, e)
		}
	}
	if s, e := Replay(2, []api.Record{image(made(t, records...).Image())}); s != nil || e != api.ErrImage {
		t.Errorf("Replay of another node's image = %v, %d", s, e)
	}
}

// P13.7: more pairs than one answer may have.
func TestReadTellsWhenThereAreTooMany(t *testing.T) {
	m := model{node: 1, ceiling: 10}
	for i := range maxPairs + 1 {
		m.versions = append(m.versions, version(string([]byte{'k', byte(i >> 8), byte(i)}), at(uint64(i/maxPairs), 0, 0), "v"))
	}
	s := loaded(t, m.image())
	if list, e := s.Read(whole, at(0, 9, 9)); e != api.OK || len(list) != maxPairs {
		t.Errorf("Read = %d pairs, %d", len(list), e)
	}
	wantRead(t, s, whole, at(1, 0, 0), api.ErrMany)
	wantRead(t, s, span("k\x02", ""), at(1, 0, 0), api.OK, "k\x02\x00=v")
	wantRead(t, s, span("z", "a"), at(1, 0, 0), api.OK)
}

// P13.7: neither what is held nor what was let go is seen by a read; an intent alone blocks.
func TestBlocksAndReadGoBesideEachOther(t *testing.T) {
	s := made(t, reserve(10), prepare(t1, 1, at(5, 0, 1), points("r"), puts("a=1", "b=1")), prepare(t2, 1, at(4, 0, 1), nil, puts("c")))
	wantRead(t, s, whole, end, api.OK)
	wantBlocks(t, s, whole, at(4, 0, 0))
	wantBlocks(t, s, whole, at(4, 0, 1), t2)
	wantBlocks(t, s, whole, end, t1, t2)
	wantBlocks(t, s, span("a", "c"), end, t1)
	wantBlocks(t, s, span("r", ""), end) // a read lock blocks no read
	wantBlocks(t, s, span("b", "a"), end)
	wantApply(t, s, mark(at(9, 0, 0)), api.OK)
	wantBlocks(t, s, whole, at(4, 0, 1), t2) // the watermark plays no part
	wantApply(t, s, abort(t2, 1), api.OK)
	wantBlocks(t, s, whole, end, t1)
}

// P13.8: each answer ahead of those that the chapter names later.
func TestCheckAnswersInItsOrder(t *testing.T) {
	s := made(t, reserve(20),
		prepare(id(2, 1), 1, at(5, 0, 0), nil, puts("v=1")), commit(id(2, 1), 1, at(6, 0, 0)), abort(id(2, 2), 1),
		prepare(id(2, 3), 1, at(8, 0, 0), spans(span("r", "s")), puts("w=1")), mark(at(5, 0, 0)))
	early, late := at(4, 0, 0), at(5, 0, 0)
	all, w := spans(whole), puts("w=1")
	top := at(topWall, 0, 0)
	for _, txn := range []api.Txn{id(2, 1), id(2, 2)} {
		wantCheck(t, s, txn, top, all, w, api.ErrOutcome)
		wantCheck(t, s, txn, late, nil, nil, api.ErrOutcome)
	}
	wantCheck(t, s, id(2, 3), top, all, w, api.ErrHeld)
	wantCheck(t, s, id(2, 3), late, nil, nil, api.ErrHeld)
	wantCheck(t, s, t1, top, all, w, api.ErrExhausted)
	wantCheck(t, s, t1, end, nil, nil, api.ErrExhausted)
	wantCheck(t, s, t1, early, all, w, api.ErrOld)
	wantCheck(t, s, t1, early, spans(span("b", "a")), nil, api.ErrOld) // a span without a key is a read, too
	wantCheck(t, s, t1, early, nil, w, api.ErrConflict)
	wantCheck(t, s, t1, late, all, nil, api.ErrConflict)
	wantCheck(t, s, t1, late, points("v"), puts("r"), api.ErrConflict)
	wantCheck(t, s, t1, late, points("v"), nil, api.ErrStale)
	wantCheck(t, s, t1, late, points("a", "v", "x"), puts("v=2"), api.ErrStale)
	wantCheck(t, s, t1, at(5, topNumber, topNumber), points("v"), nil, api.ErrStale)
	wantCheck(t, s, t1, at(6, 0, 0), points("v"), puts("v=2"), api.OK)
	wantCheck(t, s, t1, late, points("u", "v\x00"), puts("v=2"), api.OK) // what is written may have changed
	wantCheck(t, s, t1, early, nil, puts("v=2"), api.OK)
	wantCheck(t, s, t1, last, all[:0], nil, api.OK)
	wantCheck(t, s, t1, zero, nil, nil, api.OK)
}

// P13.8: reads and writes are taken as they are.
func TestCheckTakesWhatIsNotValid(t *testing.T) {
	s := made(t, reserve(20), prepare(id(2, 1), 1, at(5, 0, 0), nil, puts("v=1")), commit(id(2, 1), 1, at(6, 0, 0)), prepare(id(2, 3), 1, at(8, 0, 0), spans(span("r", "s")), puts("w=1")))
	long := strings.Repeat("z", 99)
	wantCheck(t, s, id(7, 0), at(5, 0, 0), nil, append(puts("z="+long, "a=1", "a=1"), api.Write{}), api.OK)
	wantCheck(t, s, id(7, 0), at(5, 0, 0), nil, puts("z=1", "w=1", "a=1"), api.ErrConflict)
	wantCheck(t, s, id(7, 0), at(5, 0, 0), nil, []api.Write{{Key: "w", Delete: true, Value: long}}, api.ErrConflict)
	wantCheck(t, s, id(7, 0), at(5, 0, 0), nil, puts("r"+long), api.ErrConflict)
	wantCheck(t, s, id(7, 0), at(5, 0, 0), spans(span("z", "a"), span(long, long)), nil, api.OK)
	wantCheck(t, s, id(7, 0), at(5, 0, 0), spans(span("u"+long, "v"+long)), nil, api.ErrStale)
	wantCheck(t, s, id(7, 0), at(5, 0, 0), slices.Repeat(points("a"), 100), slices.Repeat(puts("a=1"), 100), api.OK)
}

// DOC.md, 'Nothing panics': a State as Go makes it is an empty one of node 0.
func TestAStateThatNewDidNotMakeIsEmpty(t *testing.T) {
	s := &State{}
	wantContent(t, s, model{})
	if s.Image() != New(0).Image() {
		t.Errorf("Image() = %x", s.Image())
	}
	wantCheck(t, s, t1, zero, points("a"), puts("a=1"), api.OK)
	for _, r := range []api.Record{reserve(10), prepare(t1, 1, at(5, 0, 1), nil, puts("a=1")), commit(t1, 1, at(5, 0, 1)), mark(at(5, 0, 1)), abort(t2, 1)} {
		wantApply(t, s, r, api.OK)
	}
	wantRead(t, s, whole, end, api.OK, "a=1")
}
