package wal

import (
	"encoding/binary"
	"math"
	"math/rand"
	"reflect"
	"slices"
	"strings"
	"testing"

	"tidemark/api"
	"tidemark/wire"
)

// Limits of the document, told apart from the program's constants.
const (
	topWall   = 18446744073709551615
	topNumber = 4294967295
	longImage = 1048560
)

var txn21 = api.Txn{Client: 2, Seq: 1}

func at(wall uint64, logical, node uint32) api.Stamp {
	return api.Stamp{Wall: wall, Logical: logical, Node: node}
}

func reserve(wall uint64) api.Record { return api.Record{Kind: api.RecReserve, Wall: wall} }

func image(text string) api.Record { return api.Record{Kind: api.RecImage, Image: text} }

// with gives a record that is changed in one way.
func with(r api.Record, change func(*api.Record)) api.Record {
	r.Reads, r.Writes = slices.Clone(r.Reads), slices.Clone(r.Writes)
	change(&r)
	return r
}

// plain makes every list that is empty nil, so that records can be compared as a whole.
func plain(r api.Record) api.Record {
	if len(r.Reads) == 0 {
		r.Reads = nil
	}
	if len(r.Writes) == 0 {
		r.Writes = nil
	}
	return r
}

func alike(a, b api.Record) bool { return reflect.DeepEqual(plain(a), plain(b)) }

func allAlike(a, b []api.Record) bool { return slices.EqualFunc(a, b, alike) }

func plainText(b []byte, s string) []byte {
	return append(binary.AppendUvarint(b, uint64(len(s))), s...)
}

func plainStamp(b []byte, s api.Stamp) []byte {
	b = binary.BigEndian.AppendUint64(b, s.Wall)
	return binary.BigEndian.AppendUint32(binary.BigEndian.AppendUint32(b, s.Logical), s.Node)
}

// payloadOf writes a record as its kind says, with the library's means, whether it is valid or not.
func payloadOf(r api.Record) string {
	num := binary.AppendUvarint
	b := []byte{byte(r.Kind)}
	if r.Kind == api.RecPrepare || r.Kind == api.RecDecide {
		b = num(num(num(b, uint64(r.Txn.Client)), uint64(r.Txn.Seq)), uint64(r.Home))
	}
	switch r.Kind {
	case api.RecReserve:
		b = num(b, r.Wall)
	case api.RecPrepare:
		b = num(plainStamp(b, r.At), uint64(len(r.Reads)))
		for _, s := range r.Reads {
			b = plainText(plainText(b, s.Lo), s.Hi)
		}
		b = num(b, uint64(len(r.Writes)))
		for _, w := range r.Writes {
			flag := byte(0)
			if w.Delete {
				flag = 1
			}
			b = plainText(append(plainText(b, w.Key), flag), w.Value)
		}
	case api.RecDecide:
		b = plainStamp(append(b, byte(r.Outcome)), r.At)
	case api.RecMark:
		b = plainStamp(b, r.At)
	case api.RecImage:
		b = plainText(b, r.Image)
	}
	return string(b)
}

func frame(payload string) string {
	f, e := wire.Frame(payload)
	if e != api.OK {
		panic("no frame")
	}
	return f
}

// bytesOf gives a record's bytes, valid or not.
func bytesOf(r api.Record) string { return frame(payloadOf(r)) }

// someOfEach: a plain valid record of each kind.
func someOfEach() []api.Record {
	return []api.Record{
		reserve(300),
		{Kind: api.RecPrepare, Txn: txn21, Home: 3, At: at(5, 0, 1), Reads: []api.Span{{Lo: "a", Hi: "a\x00"}, {}}, Writes: []api.Write{{Key: "a", Value: "1"}, {Key: "b", Delete: true}}},
		{Kind: api.RecDecide, Txn: txn21, Home: 3, Outcome: api.Committed, At: at(6, 1, 0)},
		{Kind: api.RecMark, At: at(4, 2, 1)},
		image("all that went before"),
	}
}

func one(kind api.RecordKind) api.Record { return someOfEach()[kind-1] }

func puts(keys ...string) []api.Write {
	var list []api.Write
	for _, k := range keys {
		list = append(list, api.Write{Key: k, Value: "v"})
	}
	return list
}

// risingKeys gives n keys, each as long as a key may be.
func risingKeys(n int) []string {
	var list []string
	for i := range n {
		list = append(list, string([]byte{byte(i)})+strings.Repeat("\xff", 31))
	}
	return list
}

// goodRecords: valid records, the edges of every field among them.
func goodRecords() []api.Record {
	prepare, decide := one(api.RecPrepare), one(api.RecDecide)
	var spans []api.Span
	var writes []api.Write
	for _, k := range risingKeys(16) {
		spans = append(spans, api.Span{Lo: k + "a", Hi: k + "b"})
		writes = append(writes, api.Write{Key: k, Value: strings.Repeat("\x00", 64)})
	}
	lists := func(reads []api.Span, writes []api.Write) api.Record {
		return with(prepare, func(r *api.Record) { r.Reads, r.Writes = reads, writes })
	}
	return append(someOfEach(),
		reserve(0), reserve(127), reserve(128), reserve(topWall),
		with(reserve(1), func(r *api.Record) { r.Reads, r.Writes = []api.Span{}, []api.Write{} }),
		lists(nil, prepare.Writes), lists(prepare.Reads, nil), lists([]api.Span{}, puts("a")), lists([]api.Span{{}}, []api.Write{}),
		lists(make([]api.Span, 16), nil), lists(spans, writes), lists(nil, puts(risingKeys(16)...)),
		lists([]api.Span{{Lo: "b"}, {Hi: "a"}, {Lo: "b"}, {Lo: "\x00", Hi: "\xff"}}, nil),
		lists(nil, []api.Write{{Key: "\x00"}, {Key: "a"}, {Key: "a\x00", Delete: true}}),
		with(prepare, func(r *api.Record) { r.Home, r.Txn = topNumber, api.Txn{Client: topNumber, Seq: topNumber} }),
		with(prepare, func(r *api.Record) { r.Home, r.Txn = 0, api.Txn{Seq: 1} }),
		with(prepare, func(r *api.Record) { r.At = at(0, 0, 0) }),
		with(prepare, func(r *api.Record) { r.At = at(topWall-1, topNumber, topNumber) }),
		with(decide, func(r *api.Record) { r.Outcome, r.At = api.Aborted, api.Stamp{} }),
		with(decide, func(r *api.Record) { r.At = api.Stamp{} }),
		with(decide, func(r *api.Record) { r.At = at(topWall-1, topNumber, topNumber) }),
		with(decide, func(r *api.Record) { r.Home, r.Txn = topNumber, api.Txn{Client: topNumber, Seq: topNumber} }),
		with(decide, func(r *api.Record) { r.Home, r.Txn = 0, api.Txn{Seq: 1} }),
		api.Record{Kind: api.RecMark}, api.Record{Kind: api.RecMark, At: at(topWall-1, topNumber, topNumber)},
		image(""), image("\x00\xff"), image(strings.Repeat("i", 127)), image(strings.Repeat("i", 128)), image(strings.Repeat("\x05", longImage)),
	)
}

// badFields: records with a fault in a field that their kind names, so that payloadOf shows it too.
func badFields() []api.Record {
	prepare, decide := one(api.RecPrepare), one(api.RecDecide)
	var list []api.Record
	add := func(r api.Record, change func(*api.Record)) { list = append(list, with(r, change)) }
	for _, r := range []api.Record{prepare, decide} {
		add(r, func(r *api.Record) { r.Txn.Seq = 0 })
		add(r, func(r *api.Record) { r.Txn = api.Txn{} })
	}
	for _, r := range []api.Record{prepare, decide, one(api.RecMark)} {
		add(r, func(r *api.Record) { r.At.Wall = topWall })
		add(r, func(r *api.Record) { r.At = at(topWall, topNumber, topNumber) })
	}
	add(prepare, func(r *api.Record) { r.Reads, r.Writes = nil, nil })
	add(prepare, func(r *api.Record) { r.Reads, r.Writes = []api.Span{}, []api.Write{} })
	add(prepare, func(r *api.Record) { r.Reads = make([]api.Span, 17) })
	add(prepare, func(r *api.Record) { r.Writes = puts(risingKeys(17)...) })
	for _, s := range []api.Span{{Lo: "a", Hi: "a"}, {Lo: "b", Hi: "a"}, {Lo: "a\x00", Hi: "a"}, {Lo: strings.Repeat("x", 34)}, {Hi: strings.Repeat("x", 34)}} {
		add(prepare, func(r *api.Record) { r.Reads[0] = s })
		add(prepare, func(r *api.Record) { r.Reads[1] = s })
	}
	for _, keys := range [][]string{{""}, {"", "a"}, {"a", "a"}, {"b", "a"}, {"a", "c", "b"}, {strings.Repeat("x", 33)}, {"\x80", "\x7f"}} {
		add(prepare, func(r *api.Record) { r.Writes = puts(keys...) })
	}
	add(prepare, func(r *api.Record) { r.Writes[0].Value = strings.Repeat("x", 65) })
	add(prepare, func(r *api.Record) { r.Writes[1].Value = "v" }) // a deletion
	for _, o := range []api.Outcome{api.Unknown, 3, 255} {
		add(decide, func(r *api.Record) { r.Outcome = o })
		add(decide, func(r *api.Record) { r.Outcome, r.At = o, api.Stamp{} })
	}
	for _, s := range []api.Stamp{at(1, 0, 0), at(0, 1, 0), at(0, 0, 1), at(topWall, 0, 0)} {
		add(decide, func(r *api.Record) { r.Outcome, r.At = api.Aborted, s })
	}
	return append(list, image(strings.Repeat("i", longImage+1)))
}

// setters: by the field's name, how to lay something into a field.
func setters() map[string]func(*api.Record) {
	return map[string]func(*api.Record){
		"wall":    func(r *api.Record) { r.Wall = 1 },
		"client":  func(r *api.Record) { r.Txn.Client = 1 },
		"seq":     func(r *api.Record) { r.Txn.Seq = 1 },
		"home":    func(r *api.Record) { r.Home = 1 },
		"outcome": func(r *api.Record) { r.Outcome = api.Committed },
		"at":      func(r *api.Record) { r.At = at(0, 0, 1) },
		"reads":   func(r *api.Record) { r.Reads = []api.Span{{}} },
		"writes":  func(r *api.Record) { r.Writes = puts("a") },
		"image":   func(r *api.Record) { r.Image = "x" },
	}
}

// named: the fields that a kind names.
func named() map[api.RecordKind]string {
	return map[api.RecordKind]string{
		api.RecReserve: "wall",
		api.RecPrepare: "client seq home at reads writes",
		api.RecDecide:  "client seq home outcome at",
		api.RecMark:    "at",
		api.RecImage:   "image",
	}
}

// strangers: records with something in a field that their kind does not name.
func strangers() []api.Record {
	var list []api.Record
	for kind, fields := range named() {
		for name, set := range setters() {
			if !strings.Contains(fields, name) {
				list = append(list, with(one(kind), set))
			}
		}
	}
	return list
}

// farOutcomes: records whose outcome is none, though its lowest byte is one's.
func farOutcomes() []api.Record {
	var list []api.Record
	for _, o := range []api.Outcome{257, 258, -255, math.MinInt + 1} {
		list = append(list, with(one(api.RecDecide), func(r *api.Record) { r.Outcome = o }))
		list = append(list, with(one(api.RecDecide), func(r *api.Record) { r.Outcome, r.At = o, api.Stamp{} }))
	}
	return list
}

// noKinds: records whose kind is none.
func noKinds() []api.Record {
	var list []api.Record
	for _, kind := range []api.RecordKind{0, 6, 7, -1, -5, 256, 257, 261, math.MaxInt, math.MinInt, math.MinInt + 1} {
		list = append(list, api.Record{Kind: kind})
		for _, set := range setters() {
			list = append(list, with(api.Record{Kind: kind}, set))
		}
	}
	return list
}

// P7.1
func TestValidRecords(t *testing.T) {
	for i, r := range goodRecords() {
		if e := Valid(r); e != api.OK {
			t.Errorf("Valid of row %d (%.200v) = %d, want OK", i, r, e)
		}
	}
	for kind, fields := range named() {
		for name, set := range setters() {
			if strings.Contains(fields, name) && Valid(with(one(kind), set)) != api.OK {
				t.Errorf("kind %d with %s set is refused", kind, name)
			}
		}
	}
}

// P7.1, P7.2
func TestRecordsThatMayNotBe(t *testing.T) {
	if len(strangers()) != 8+3+4+8+8 {
		t.Fatalf("%d strangers", len(strangers()))
	}
	for i, r := range slices.Concat(badFields(), farOutcomes(), strangers(), noKinds()) {
		if e := Valid(r); e != api.ErrRecord {
			t.Errorf("Valid of row %d (%.200v) = %d, want ErrRecord", i, r, e)
		}
		if b, e := Encode(r); b != "" || e != api.ErrRecord {
			t.Errorf("Encode of row %d (%.200v) = %.40q, %d, want nothing and ErrRecord", i, r, b, e)
		}
	}
}

// P7.2, P7.3: the chapter's examples.
func TestExamplesAsBytes(t *testing.T) {
	zero := strings.Repeat("\x00", 16)
	for _, c := range []struct {
		r       api.Record
		payload string
	}{
		{reserve(300), "\x01\xac\x02"},
		{api.Record{Kind: api.RecDecide, Txn: txn21, Outcome: api.Aborted}, "\x03\x02\x01\x00\x02" + zero},
		{
			api.Record{Kind: api.RecPrepare, Txn: txn21, At: at(5, 0, 1), Reads: []api.Span{{Lo: "a", Hi: "a\x00"}}, Writes: []api.Write{{Key: "a", Value: "1"}}},
			"\x02\x02\x01\x00" + "\x00\x00\x00\x00\x00\x00\x00\x05\x00\x00\x00\x00\x00\x00\x00\x01" + "\x01\x01a\x02a\x00" + "\x01\x01a\x00\x011",
		},
		{
			api.Record{Kind: api.RecPrepare, Txn: txn21, Home: 128, Writes: []api.Write{{Key: "k", Delete: true}}},
			"\x02\x02\x01\x80\x01" + zero + "\x00" + "\x01\x01k\x01\x00",
		},
		{api.Record{Kind: api.RecDecide, Txn: api.Txn{Client: 300, Seq: 2}, Home: 1, Outcome: api.Committed, At: at(1, 2, 259)}, "\x03\xac\x02\x02\x01\x01" + "\x00\x00\x00\x00\x00\x00\x00\x01\x00\x00\x00\x02\x00\x00\x01\x03"},
		{api.Record{Kind: api.RecMark}, "\x04" + zero},
		{image(""), "\x05\x00"},
		{image("x"), "\x05\x01x"},
	} {
		if b, e := Encode(c.r); b != frame(c.payload) || e != api.OK {
			t.Errorf("Encode(%v) = %x, %d, want the frame of %x", c.r, b, e, c.payload)
		}
		if r, e := Decode(c.payload); !alike(r, c.r) || e != api.OK {
			t.Errorf("Decode(%x) = %v, %d, want %v", c.payload, r, e, c.r)
		}
	}
}

// P7.2, P7.3
func TestEncodeAndBack(t *testing.T) {
	r := rand.New(rand.NewSource(73))
	records := goodRecords()
	for range 3000 {
		records = append(records, randomRecord(r))
	}
	for _, want := range records {
		b, e := Encode(want)
		if e != api.OK || b != bytesOf(want) {
			t.Fatalf("Encode(%.200v) = %.100x, %d, want %.100x", want, b, e, bytesOf(want))
		}
		if got, e := Decode(b[8:]); e != api.OK || !alike(got, want) {
			t.Fatalf("Decode of %.200v = %.200v, %d", want, got, e)
		}
	}
}

func wantNoRecord(t *testing.T, payload string) {
	t.Helper()
	if r, e := Decode(payload); e != api.ErrRecord || !alike(r, api.Record{}) {
		t.Errorf("Decode(%.100x) (%d bytes) = %.200v, %d, want the zero record and ErrRecord", payload, len(payload), r, e)
	}
}

// P7.3
func TestDecodeRefusesPayloadsOfRecordsThatMayNotBe(t *testing.T) {
	for _, r := range badFields() {
		wantNoRecord(t, payloadOf(r))
	}
	for kind := range 256 {
		if kind >= 1 && kind <= 5 {
			continue
		}
		for _, behind := range []string{"", "\x00", "\x05", strings.Repeat("\x00", 16), payloadOf(one(api.RecPrepare))[1:], "tide\x01"} {
			wantNoRecord(t, string([]byte{byte(kind)})+behind)
		}
	}
}

// P7.3
func TestDecodeRefusesPayloadsOfNoRecord(t *testing.T) {
	zero := strings.Repeat("\x00", 16)
	for _, p := range []string{
		"", "\x00", "\x06", "\x01", "\x01\x80", "\x01\x80\x00", "\x01\xac\x02\x00", "\x01\xff\xff\xff\xff\xff\xff\xff\xff\xff\x02",
		"\x02\x80\x00\x01\x00" + zero + "\x01\x00\x00\x00",                                                     // a client in two bytes for one
		"\x02\x00\x81\x00\x00" + zero + "\x01\x00\x00\x00", "\x02\x00\x01\x80\x00" + zero + "\x01\x00\x00\x00", // so are Seq and Home
		"\x02\x80\x80\x80\x80\x10\x01\x00" + zero + "\x01\x00\x00\x00",                                                                 // a client of 2^32
		"\x02\x00\x81\x80\x80\x80\x10\x00" + zero + "\x01\x00\x00\x00", "\x02\x00\x01\x80\x80\x80\x80\x10" + zero + "\x01\x00\x00\x00", // a Seq of 2^32 + 1, a home of 2^32
		"\x03\x80\x80\x80\x80\x10\x01\x00\x02" + zero, "\x03\x00\x81\x80\x80\x80\x10\x00\x02" + zero, "\x03\x00\x01\x80\x80\x80\x80\x10\x02" + zero,
		"\x02\x00\x01\x00" + zero + "\x81\x00\x00\x00\x00",                           // a count in two bytes for one
		"\x02\x00\x01\x00" + zero + "\x01\x00\x00\x80\x00",                           // another
		"\x02\x00\x01\x00" + zero + "\x01\x80\x00\x00\x00",                           // a length in two bytes for one
		"\x02\x00\x01\x00" + zero + "\x11" + strings.Repeat("\x00\x00", 17) + "\x00", // 17 reads
		"\x02\x00\x01\x00" + zero + "\xff\xff\xff\xff\xff\xff\xff\xff\xff\x01",
		"\x02\x00\x01\x00" + zero + "\x00\xff\xff\xff\xff\xff\xff\xff\xff\xff\x01",
		"\x02\x00\x01\x00" + zero + "\x00\x01\x01k\x02\x00", // a flag that is neither
		"\x02\x00\x01\x00" + zero + "\x00\x01\x01k\x01",     // a deletion without its text
		"\x05", "\x05\x01", "\x05\x00x", "\x05\x02x", "\x05\x80\x00", "\x05\x81\x00x",
	} {
		wantNoRecord(t, p)
	}
	for kind := range byte(8) {
		wantNoRecord(t, string([]byte{kind})+strings.Repeat("\xff", 40))
	}
}

// P7.3: what is cut short anywhere, or goes on, is a payload of no record.
func TestDecodeRefusesPayloadsOfAnotherLength(t *testing.T) {
	for _, r := range goodRecords() {
		p := payloadOf(r)
		for n := range min(len(p), 2000) {
			wantNoRecord(t, p[:n])
		}
		wantNoRecord(t, p[:len(p)-1])
		for _, more := range []string{"\x00", "\x01", "x", p} {
			wantNoRecord(t, p+more)
		}
	}
}

// P7.3: a payload is changed in any one byte: if it is a record's, then just that one's.
func TestWhatIsDecodedHasJustThatPayload(t *testing.T) {
	r := rand.New(rand.NewSource(3))
	payloads := []string{}
	for _, good := range someOfEach() {
		payloads = append(payloads, payloadOf(good))
	}
	for range 20 {
		payloads = append(payloads, payloadOf(randomRecord(r)))
	}
	taken, refused := 0, 0
	for _, p := range payloads {
		for i := range len(p) {
			for v := range 256 {
				changed := p[:i] + string([]byte{byte(v)}) + p[i+1:]
				got, e := Decode(changed)
				if e != api.OK {
					refused++
					if e != api.ErrRecord || !alike(got, api.Record{}) {
						t.Fatalf("Decode(%x) = %v, %d", changed, got, e)
					}
					continue
				}
				taken++
				if Valid(got) != api.OK || payloadOf(got) != changed {
					t.Fatalf("Decode(%x) = %v, whose payload is %x", changed, got, payloadOf(got))
				}
			}
		}
	}
	if taken < 1000 || refused < 1000 {
		t.Errorf("%d were taken, %d refused: too few of one", taken, refused)
	}
}

// P7.3: any bytes at all.
func TestDecodeTakesAnyBytes(t *testing.T) {
	r := rand.New(rand.NewSource(7))
	for range 50000 {
		b := []byte(randomText(r, 40))
		for i := range b {
			if r.Intn(3) > 0 {
				b[i] &= 3
			}
		}
		got, e := Decode(string(b))
		if e == api.OK && (Valid(got) != api.OK || payloadOf(got) != string(b)) || e != api.OK && (e != api.ErrRecord || !alike(got, api.Record{})) {
			t.Fatalf("Decode(%x) = %v, %d", b, got, e)
		}
	}
}

// The chapter's section 'Ways': the lists are read by takes that may be anything.
func TestTheListsAreReadByTheTakesAlone(t *testing.T) {
	numbers, texts, flags := []uint64{2, 1}, []string{"a", "b", "c", "", "k", "v"}, []bool{true}
	var most []int
	reads, writes := takeLists(
		func(n uint64) uint64 { most = append(most, int(n)); v := numbers[0]; numbers = numbers[1:]; return v },
		func(n int) string { most = append(most, n); v := texts[0]; texts = texts[1:]; return v },
		func() bool { v := flags[0]; flags = flags[1:]; return v },
	)
	if !slices.Equal(reads, []api.Span{{Lo: "a", Hi: "b"}, {Lo: "c"}}) || !slices.Equal(writes, []api.Write{{Key: "k", Delete: true, Value: "v"}}) {
		t.Errorf("takeLists = %v, %v", reads, writes)
	}
	if !slices.Equal(most, []int{16, 33, 33, 33, 33, 16, 32, 64}) {
		t.Errorf("the takes were held to %v", most)
	}
}

// roomy gives a record whose lists have spare room with something in it.
func roomy(r api.Record) api.Record {
	r.Reads = append(slices.Clone(r.Reads), api.Span{Lo: "spare"})[:len(r.Reads)]
	r.Writes = append(slices.Clone(r.Writes), api.Write{Key: "spare"})[:len(r.Writes)]
	return r
}

// whole shows the first place of the lists' spare room as well.
func whole(r api.Record) api.Record {
	r.Reads, r.Writes = slices.Clone(r.Reads[:len(r.Reads)+1]), slices.Clone(r.Writes[:len(r.Writes)+1])
	return r
}

// DOC.md, 'Lists'.
func TestListsHandedInStayAsTheyAre(t *testing.T) {
	for _, r := range append(someOfEach(), badFields()...) {
		r = roomy(r)
		ahead := whole(r)
		Valid(r)
		Encode(r)
		if !reflect.DeepEqual(whole(r), ahead) {
			t.Errorf("a record was changed to %.200v", whole(r))
		}
	}
}

// DOC.md, 'Lists'.
func TestListsHandedOutAreNew(t *testing.T) {
	p := payloadOf(one(api.RecPrepare))
	first, _ := Decode(p)
	second, _ := Decode(p)
	first.Reads[0].Lo, first.Writes[0].Key = "changed", "changed"
	_ = append(first.Reads, api.Span{Lo: "more"})
	_ = append(first.Writes, api.Write{Key: "more"})
	third, _ := Decode(p)
	if !alike(second, one(api.RecPrepare)) || !alike(third, one(api.RecPrepare)) {
		t.Errorf("other answers are now %v and %v", second, third)
	}
}

func randomText(r *rand.Rand, most int) string {
	b := make([]byte, r.Intn(most+1))
	r.Read(b)
	return string(b)
}

func randomStamp(r *rand.Rand) api.Stamp {
	return at(r.Uint64()>>(1+r.Intn(63)), r.Uint32()>>r.Intn(33), r.Uint32()>>r.Intn(33))
}

func randomSpans(r *rand.Rand, n int) []api.Span {
	var list []api.Span
	for range n {
		s := api.Span{Lo: randomText(r, 33), Hi: randomText(r, 33)}
		if s.Hi <= s.Lo {
			s.Hi = ""
		}
		list = append(list, s)
	}
	return list
}

func randomWrites(r *rand.Rand, n int) []api.Write {
	var keys []string
	for range n {
		keys = append(keys, string([]byte{byte(r.Intn(256))})+randomText(r, 31))
	}
	slices.Sort(keys)
	var list []api.Write
	for _, k := range slices.Compact(keys) {
		w := api.Write{Key: k, Delete: r.Intn(3) == 0}
		if !w.Delete {
			w.Value = randomText(r, 64)
		}
		list = append(list, w)
	}
	return list
}

// randomRecord gives a valid record of any kind.
func randomRecord(r *rand.Rand) api.Record {
	if r.Intn(6) == 0 {
		return image(randomText(r, 300))
	}
	return randomChange(r)
}

// randomChange gives a valid record of a kind that may be appended.
func randomChange(r *rand.Rand) api.Record {
	id := api.Txn{Client: r.Uint32() >> r.Intn(33), Seq: 1 + r.Uint32()>>(1+r.Intn(31))}
	home := r.Uint32() >> r.Intn(33)
	switch r.Intn(5) {
	case 0:
		return reserve(r.Uint64() >> r.Intn(64))
	case 1:
		return api.Record{Kind: api.RecPrepare, Txn: id, Home: home, At: randomStamp(r), Reads: randomSpans(r, r.Intn(4)), Writes: randomWrites(r, 1+r.Intn(3))}
	case 2:
		return api.Record{Kind: api.RecDecide, Txn: id, Home: home, Outcome: api.Committed, At: randomStamp(r)}
	case 3:
		return api.Record{Kind: api.RecDecide, Txn: id, Home: home, Outcome: api.Aborted}
	}
	return api.Record{Kind: api.RecMark, At: randomStamp(r)}
}
