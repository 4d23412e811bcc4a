package state

import (
	"math/rand"
	"slices"
	"strings"
	"testing"

	"tidemark/api"
)

// wantLoad holds Load against whether the bytes are an image of node 1.
func wantLoad(t *testing.T, what, bytes string, want bool) {
	t.Helper()
	s, e := Load(1, bytes)
	if want && (s == nil || e != api.OK || s.Image() != bytes) {
		t.Errorf("%s: Load(1, %x) = %v, %d, want a state with that image", what, bytes, s, e)
	}
	if !want && (s != nil || e != api.ErrImage) {
		t.Errorf("%s: Load(1, %x) = %v, %d, want nil, ErrImage", what, bytes, s, e)
	}
}

// P13.4: the bytes as the chapter lays them out, written by hand.
func TestImageBytes(t *testing.T) {
	s := made(t, reserve(300), prepare(t1, 1, at(5, 0, 1), points("b"), puts("a=1")), abort(t3, 0),
		prepare(t2, 200, at(6, 0, 1), nil, puts("c", "d=22")), commit(t2, 200, at(7, 2, 0)), mark(at(0, 0, 3)))
	want := "\x01\xac\x02" + "\x00\x00\x00\x00\x00\x00\x00\x00\x00\x00\x00\x00\x00\x00\x00\x03" +
		"\x01" + "\x03\x01\x01" + "\x00\x00\x00\x00\x00\x00\x00\x05\x00\x00\x00\x00\x00\x00\x00\x01" + "\x01\x01b\x02b\x00" + "\x01\x01a\x00\x011" +
		"\x02" + "\x03\x02\xc8\x01\x01" + "\x00\x00\x00\x00\x00\x00\x00\x07\x00\x00\x00\x02\x00\x00\x00\x00" +
		"\x04\x01\x00\x02" + strings.Repeat("\x00", 16) +
		"\x02" + "\x01c" + "\x00\x00\x00\x00\x00\x00\x00\x07\x00\x00\x00\x02\x00\x00\x00\x00" + "\x01\x00" +
		"\x01d" + "\x00\x00\x00\x00\x00\x00\x00\x07\x00\x00\x00\x02\x00\x00\x00\x00" + "\x00\x0222"
	for range 2 { // nothing changes by telling it
		if got := s.Image(); got != want {
			t.Errorf("Image() = %x, want %x", got, want)
		}
	}
	wantLoad(t, "by hand", want, true)
	wantContent(t, loaded(t, want), told(1, s))
}

// P13.4, P13.5: lists rise by Client, then by Seq, and by key, then by stamp, as numbers and bytes.
func TestImageLists(t *testing.T) {
	m := soundContent()
	s := loaded(t, m.image())
	wantContent(t, s, m)
	if got := s.Image(); got != m.image() {
		t.Errorf("Image() = %x, want %x", got, m.image())
	}
	ids := []api.Txn{id(0, 1), id(0, topNumber), id(1, 1), id(1, 2), id(1, 128), id(255, 9), id(256, 3), id(256, 1<<31), id(1<<31, 1), id(topNumber, 1)}
	x := made(t, reserve(5))
	for i, n := range rand.New(rand.NewSource(13)).Perm(len(ids)) {
		txn := ids[n]
		if i%2 == 0 {
			wantApply(t, x, abort(txn, 1), api.OK)
		} else {
			wantApply(t, x, prepare(txn, 1, at(1, 0, 0), points("k"), nil), api.OK)
		}
	}
	if got := told(1, x); !got.sound() || x.Image() != got.image() || len(got.held) != 5 || len(got.entries) != 5 {
		t.Errorf("Image() = %x of %v", x.Image(), got)
	}
}

// P13.5: of the content itself.
func TestLoadRefusesWhatIsNotSound(t *testing.T) {
	long := func(n int) string { return strings.Repeat("x", n) }
	sixteen := func(n int) (spans []api.Span, writes []api.Write) {
		for i := range n {
			spans, writes = append(spans, span("y", "")), append(writes, puts(string(rune('A'+i))+"=1")...)
		}
		return spans, writes
	}
	manyReads, manyWrites := sixteen(maxList + 1)
	for what, spoil := range map[string]func(m *model){
		"another node":                            func(m *model) { m.node = 0 },
		"another node above a byte":               func(m *model) { m.node = 257 },
		"the watermark at the top":                func(m *model) { m.mark = at(topWall, 0, 0) },
		"held without a Seq":                      func(m *model) { m.held[0].Txn = id(2, 0) },
		"held at the ceiling":                     func(m *model) { m.held[1].At = at(300, 0, 0) },
		"held above the ceiling":                  func(m *model) { m.held[1].At = last },
		"held at the top":                         func(m *model) { m.ceiling, m.held[1].At = topWall, end },
		"held with nothing":                       func(m *model) { m.held[0].Reads, m.held[0].Writes = nil, nil },
		"held twice":                              func(m *model) { m.held = slices.Insert(m.held, 2, m.held[2]) },
		"two helds of one id":                     func(m *model) { m.held[1].Txn = id(2, 1) },
		"helds that fall by Seq":                  func(m *model) { m.held[0], m.held[1] = m.held[1], m.held[0] },
		"helds that fall by Client":               func(m *model) { m.held[1], m.held[2] = m.held[2], m.held[1] },
		"a read that is not valid":                func(m *model) { m.held[0].Reads[1] = span("s", "r") },
		"a read of nothing":                       func(m *model) { m.held[0].Reads[1] = span("s", "s") },
		"a Lo too long":                           func(m *model) { m.held[2].Reads[0] = span(long(maxBound+1), "") },
		"a Hi too long":                           func(m *model) { m.held[2].Reads[0] = span("", long(maxBound+1)) },
		"too many reads":                          func(m *model) { m.held[2].Reads = manyReads },
		"too many writes":                         func(m *model) { m.held[2].Writes = manyWrites },
		"writes that fall":                        func(m *model) { m.held[0].Writes = puts("b", "a=1") },
		"a key that is written twice":             func(m *model) { m.held[0].Writes = puts("b", "b") },
		"a write without a key":                   func(m *model) { m.held[0].Writes = puts("=1") },
		"a write's key too long":                  func(m *model) { m.held[0].Writes = puts(long(maxKey+1) + "=1") },
		"a write's value too long":                func(m *model) { m.held[0].Writes = puts("a=" + long(maxValue+1)) },
		"a deletion with a value":                 func(m *model) { m.held[0].Writes = []api.Write{{Key: "a", Delete: true, Value: "1"}} },
		"two that write one key":                  func(m *model) { m.held[1].Writes = puts("a=1") },
		"one that writes what an earlier reads":   func(m *model) { m.held[1].Writes = puts("r=1") },
		"one that reads what an earlier writes":   func(m *model) { m.held[1].Reads = spans(whole) },
		"a version at what holds its key":         func(m *model) { m.versions[1].At = at(5, 0, 1) },
		"a version above what holds its key":      func(m *model) { m.versions[1].At = at(5, 0, 2) },
		"a deletion at what holds its key":        func(m *model) { m.versions[2].At = at(5, 0, 1) },
		"a version at the zero stamp's intent":    func(m *model) { m.held[2].Writes = []api.Write{{Key: m.versions[4].Key}} },
		"an entry without a Seq":                  func(m *model) { m.entries[0].Txn = id(0, 0) },
		"an entry of what is held":                func(m *model) { m.entries[1].Txn = id(2, 300) },
		"a commit of what is held":                func(m *model) { m.entries[2].Txn = id(2, 300) },
		"an entry of no outcome":                  func(m *model) { m.entries[1].Outcome = api.Unknown },
		"an entry of another outcome":             func(m *model) { m.entries[1].Outcome = 3 },
		"an abort with a stamp":                   func(m *model) { m.entries[1].At = at(0, 0, 1) },
		"a commit at the ceiling":                 func(m *model) { m.entries[0].At = at(300, 0, 0) },
		"a commit at the top":                     func(m *model) { m.ceiling, m.entries[0].At = topWall, at(topWall, 0, 0) },
		"an entry twice":                          func(m *model) { m.entries = slices.Insert(m.entries, 1, m.entries[0]) },
		"two entries of one id":                   func(m *model) { m.entries[2].Txn = id(2, 2) },
		"entries that fall by Seq":                func(m *model) { m.entries[1], m.entries[2] = m.entries[2], m.entries[1] },
		"entries that fall by Client":             func(m *model) { m.entries[0], m.entries[1] = m.entries[1], m.entries[0] },
		"a version without a key":                 func(m *model) { m.versions[0].Key = "" },
		"a version's key too long":                func(m *model) { m.versions[4].Key = m.versions[4].Key + "x" },
		"a version's value too long":              func(m *model) { m.versions[4].Value = long(maxValue + 1) },
		"a tombstone with a value":                func(m *model) { m.versions[2].Value = "x" },
		"a version at the ceiling":                func(m *model) { m.versions[4].At = at(300, 0, 0) },
		"a version above the ceiling":             func(m *model) { m.versions[4].At = last },
		"a version at the top":                    func(m *model) { m.ceiling, m.versions[4].At = topWall, at(topWall, 0, 0) },
		"a version twice":                         func(m *model) { m.versions = slices.Insert(m.versions, 1, m.versions[0]) },
		"two versions at one stamp":               func(m *model) { m.versions[1].At = m.versions[0].At },
		"versions that fall by stamp":             func(m *model) { m.versions[0], m.versions[1] = m.versions[1], m.versions[0] },
		"versions that fall by key":               func(m *model) { m.versions[1], m.versions[2] = m.versions[2], m.versions[1] },
		"a ceiling of 0 above a version":          func(m *model) { *m = model{node: 1, versions: []api.Version{version("a", zero, "")}} },
		"a ceiling of 0 above a commit":           func(m *model) { *m = model{node: 1, entries: []api.Entry{{Txn: t1, Outcome: api.Committed}}} },
		"a ceiling of 0 above what is held":       func(m *model) { *m = model{node: 1, held: []api.Held{{Txn: t1, Writes: puts("a")}}} },
		"a version at the zero stamp that's held": func(m *model) { *m = zeroHeld("a") },
	} {
		m := soundContent()
		spoil(&m)
		if m.sound() && m.node == 1 {
			t.Errorf("%s: that is sound", what)
		}
		wantLoad(t, what, m.image(), false)
	}
}

// zeroHeld is a content in which a key is held at the zero stamp, beside a tombstone there under "a".
func zeroHeld(key string) model {
	return model{node: 1, ceiling: 1, held: []api.Held{{Txn: t1, Writes: puts(key)}}, versions: []api.Version{tombstone("a", zero)}}
}

// P13.5: what the word 'sound' does not ask for.
func TestLoadTakesAllThatIsSound(t *testing.T) {
	for what, change := range map[string]func(m *model){
		"as it is":                                 func(m *model) {},
		"the zero watermark":                       func(m *model) { m.mark = zero },
		"a ceiling at the top":                     func(m *model) { m.ceiling = topWall },
		"held just below the top":                  func(m *model) { m.ceiling, m.held[1].At = topWall, last },
		"a commit just below the top":              func(m *model) { m.ceiling, m.entries[0].At = topWall, last },
		"a version just below the top":             func(m *model) { m.ceiling, m.versions[4].At = topWall, last },
		"commits at one stamp":                     func(m *model) { m.entries[0].At = m.entries[2].At },
		"a commit at the zero stamp":               func(m *model) { m.entries[1].Outcome = api.Committed },
		"a commit far above what is held":          func(m *model) { m.entries[0].At = at(299, 9, 9) },
		"no entry for a version":                   func(m *model) { m.entries = nil },
		"no version for an entry":                  func(m *model) { m.versions = nil },
		"nothing held":                             func(m *model) { m.held = nil },
		"the same read by two":                     func(m *model) { m.held[1].Reads = m.held[0].Reads },
		"a read of what has a later version":       func(m *model) { m.held[2].Reads = points("a\x00") },
		"its own write read":                       func(m *model) { m.held[0].Reads = spans(span("", "c")) },
		"a version just below its key's intent":    func(m *model) { m.held[0].At = at(5, 0, 1) },
		"an empty content of the node":             func(m *model) { *m = model{node: 1} },
		"an abort below a ceiling of 0":            func(m *model) { *m = model{node: 1, entries: []api.Entry{{Txn: t1, Outcome: api.Aborted}}} },
		"a watermark above a ceiling of 0":         func(m *model) { *m = model{node: 1, mark: last} },
		"sixteen reads and sixteen writes":         func(m *model) { *m = model{node: 1, ceiling: 1, held: []api.Held{sixteenOfEach()}} },
		"another key held at the zero stamp":       func(m *model) { *m = zeroHeld("a\x00") },
		"a key above all held at the zero stamp":   func(m *model) { *m = zeroHeld("b") },
		"a key below all held at the zero stamp":   func(m *model) { *m = zeroHeld("\x00") },
		"a span over everything read at the start": func(m *model) { *m = model{node: 1, ceiling: 1, held: []api.Held{{Txn: t1, Reads: spans(whole)}}} },
	} {
		m := soundContent()
		change(&m)
		if !m.sound() {
			t.Errorf("%s: that is not sound", what)
		}
		wantLoad(t, what, m.image(), true)
		wantContent(t, loaded(t, m.image()), m)
	}
}

func sixteenOfEach() api.Held {
	h := api.Held{Txn: t1}
	for i := range maxList {
		h.Reads, h.Writes = append(h.Reads, span("y", "")), append(h.Writes, puts(string(rune('A'+i))+"=1")...)
	}
	return h
}

// P13.5: of the bytes.
func TestLoadRefusesBytesInAnotherForm(t *testing.T) {
	m := soundContent()
	whole := m.image()
	for i := range len(whole) {
		wantLoad(t, "cut", whole[:i], false)
	}
	for _, more := range []string{"\x00", "\x01", "\xff", whole} {
		wantLoad(t, "left over", whole+more, false)
	}
	rest := strings.Repeat("\x00", 16) + "\x00\x00\x00"
	wantLoad(t, "short numbers", "\x01\x00"+rest, true)
	wantLoad(t, "a node in more bytes than it takes", "\x81\x00\x00"+rest, false)
	wantLoad(t, "a ceiling in more bytes than it takes", "\x01\x80\x00"+rest, false)
	wantLoad(t, "a node above 32 bits", "\x81\x80\x80\x80\x10\x00"+rest, false)
	wantLoad(t, "a ceiling above 64 bits", "\x01\xff\xff\xff\xff\xff\xff\xff\xff\xff\x02"+rest, false)
	wantLoad(t, "the greatest ceiling", "\x01\xff\xff\xff\xff\xff\xff\xff\xff\xff\x01"+rest, true)
	wantLoad(t, "a count in more bytes than it takes", "\x01\x00"+rest[:16]+"\x80\x00\x00\x00", false)
	for i := range 3 { // a count that no bytes follow, as great as there are
		for _, count := range []string{"\x01", "\x7f", "\xff\xff\xff\xff\xff\xff\xff\xff\xff\x01"} {
			wantLoad(t, "a count of what is not there", "\x01\x05"+rest[:16+i]+count, false)
			wantLoad(t, "a count of what is not there", "\x01\x05"+rest[:16+i]+count+rest[16+i+1:], false)
			wantLoad(t, "a count of what is not there", "\x01\x05"+rest[:16+i]+count+strings.Repeat("\x00", 1000), false)
		}
	}
	flagged := model{node: 1, ceiling: 9, held: []api.Held{{Txn: t1, Writes: puts("k=")}}, versions: []api.Version{version("z", zero, "")}}
	bytes := flagged.image()
	wantLoad(t, "flags", bytes, true)
	wantLoad(t, "a write's flag", strings.Replace(bytes, "\x01k\x00", "\x01k\x02", 1), false)
	wantLoad(t, "a version's flag", bytes[:len(bytes)-2]+"\x02\x00", false)
	for _, high := range []uint64{1 << 32, 1<<32 + 1, topWall} {
		wantLoad(t, "an id above 32 bits", strings.Replace(bytes, transaction(t1, 0), number(high)+"\x01\x00", 1), false)
		wantLoad(t, "an id above 32 bits", strings.Replace(bytes, transaction(t1, 0), "\x03"+number(high)+"\x00", 1), false)
		wantLoad(t, "a home above 32 bits", strings.Replace(bytes, transaction(t1, 0), "\x03\x01"+number(high), 1), false)
	}
}

// P13.5: whatever bytes are taken, they are the image of a sound content.
func TestSpoiltImagesAreRefusedOrSound(t *testing.T) {
	taken := 0
	bytes := soundContent().image()
	for i := range len(bytes) {
		for _, b := range []byte{0, 1, 2, 3, 0x7f, 0x80, 0xff, bytes[i] + 1, bytes[i] - 1, bytes[i] ^ 0x80} {
			spoilt := bytes[:i] + string([]byte{b}) + bytes[i+1:]
			s, e := Load(1, spoilt)
			if e != api.OK && e != api.ErrImage || (s == nil) != (e != api.OK) {
				t.Fatalf("Load(1, %x) = %v, %d", spoilt, s, e)
			}
			if s == nil {
				continue
			}
			taken++
			if m := told(1, s); s.Image() != spoilt || m.image() != spoilt || !m.sound() {
				t.Fatalf("Load(1, %x) gives %v", spoilt, m)
			}
		}
	}
	if taken < 500 {
		t.Errorf("%d spoilt images are taken: too few to tell anything", taken)
	}
}

// drawContent gives a content of few parts, so that it is sound about as often as not.
func drawContent(r *rand.Rand) model {
	m := model{node: 1, ceiling: uint64(r.Intn(4)), mark: drawStamp(r, 4)}
	for range r.Intn(3) {
		h := api.Held{Txn: id(uint32(r.Intn(2)), uint32(r.Intn(6))), Home: uint32(r.Intn(3)), At: drawStamp(r, 4)}
		h.Reads, h.Writes = drawFootprint(r)
		m.held = append(m.held, h)
	}
	for range r.Intn(3) {
		e := api.Entry{Txn: id(uint32(r.Intn(2)), uint32(r.Intn(6))), Home: uint32(r.Intn(3)), Outcome: api.Committed, At: drawStamp(r, 4)}
		if r.Intn(2) == 0 {
			e.Outcome, e.At = api.Aborted, zero
		}
		m.entries = append(m.entries, e)
	}
	for range r.Intn(4) {
		v := api.Version{Key: lifeKeys[r.Intn(len(lifeKeys))], At: drawStamp(r, 4), Delete: r.Intn(2) == 0}
		m.versions = append(m.versions, v)
	}
	if r.Intn(8) > 0 {
		m.sort()
	}
	return m
}

// P13.5: Load takes just the images of sound contents.
func TestLoadIsAsTheModelSays(t *testing.T) {
	taken, n := 0, 40000
	for seed := range int64(n) {
		m := drawContent(rand.New(rand.NewSource(seed)))
		wantLoad(t, "drawn", m.image(), m.sound())
		if m.sound() {
			taken++
			wantContent(t, loaded(t, m.image()), m)
		}
		if t.Failed() {
			t.Fatalf("seed %d: %v", seed, m)
		}
	}
	if taken < n/10 || taken > n*9/10 {
		t.Errorf("%d of %d are taken: too few on one side to tell anything", taken, n)
	}
}
