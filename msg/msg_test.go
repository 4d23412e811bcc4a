package msg

import (
	"encoding/binary"
	"encoding/hex"
	"hash/crc32"
	"math"
	"math/rand"
	"reflect"
	"slices"
	"strings"
	"testing"

	"tidemark/api"
)

var (
	stamp123 = at(1, 2, 3)
	txn21    = api.Txn{Client: 2, Seq: 1}
)

func at(wall uint64, logical, node uint32) api.Stamp {
	return api.Stamp{Wall: wall, Logical: logical, Node: node}
}

// fromHex reads bytes told in hexadecimal, with spaces anywhere.
func fromHex(t *testing.T, text string) string {
	t.Helper()
	b, err := hex.DecodeString(strings.ReplaceAll(text, " ", ""))
	if err != nil {
		t.Fatal(err)
	}
	return string(b)
}

// with gives a message that is changed in one way.
func with(m api.Msg, change func(*api.Msg)) api.Msg {
	change(&m)
	return m
}

// plain makes every list that is empty nil, so that messages can be compared as a whole.
func plain(m api.Msg) api.Msg {
	if len(m.Reads) == 0 {
		m.Reads = nil
	}
	if len(m.Writes) == 0 {
		m.Writes = nil
	}
	if len(m.Pairs) == 0 {
		m.Pairs = nil
	}
	return m
}

func alike(a, b api.Msg) bool { return reflect.DeepEqual(plain(a), plain(b)) }

// plainFrame puts a frame together with the library's means.
func plainFrame(payload string) string {
	length := binary.BigEndian.AppendUint32(nil, uint32(len(payload)))
	sum := crc32.ChecksumIEEE(append(slices.Clone(length), payload...))
	return string(binary.BigEndian.AppendUint32(length, sum)) + payload
}

func plainText(b []byte, s string) []byte {
	return append(binary.AppendUvarint(b, uint64(len(s))), s...)
}

func plainStamp(b []byte, s api.Stamp) []byte {
	b = binary.BigEndian.AppendUint64(b, s.Wall)
	b = binary.BigEndian.AppendUint32(b, s.Logical)
	return binary.BigEndian.AppendUint32(b, s.Node)
}

// plainPayload writes a message as its kind says, with the library's means, whether it is valid or not.
func plainPayload(m api.Msg) string {
	num := binary.AppendUvarint
	b := num(num([]byte{byte(m.Kind)}, uint64(m.From)), uint64(m.To))
	about := func() { b = num(num(num(b, uint64(m.Txn.Client)), uint64(m.Txn.Seq)), uint64(m.Home)) }
	spans := func() {
		for _, s := range m.Reads {
			b = plainText(plainText(b, s.Lo), s.Hi)
		}
	}
	switch m.Kind {
	case api.MsgRead:
		b = plainStamp(num(b, uint64(m.Op)), m.At)
		spans()
	case api.MsgData:
		b = num(plainStamp(num(b, uint64(m.Op)), m.At), uint64(m.Status))
		b = num(b, uint64(len(m.Pairs)))
		for _, p := range m.Pairs {
			b = plainText(plainText(b, p.Key), p.Value)
		}
	case api.MsgPrepare:
		about()
		b = num(plainStamp(b, m.At), uint64(len(m.Reads)))
		spans()
		b = num(b, uint64(len(m.Writes)))
		for _, w := range m.Writes {
			b = plainText(b, w.Key)
			if w.Delete {
				b = append(b, 1)
			} else {
				b = plainText(append(b, 0), w.Value)
			}
		}
	case api.MsgVote:
		about()
		b = plainStamp(num(b, uint64(m.Status)), m.At)
	case api.MsgCommit:
		about()
		b = plainStamp(b, m.At)
	case api.MsgDone, api.MsgDecide, api.MsgTell:
		about()
		b = plainStamp(append(b, byte(m.Outcome)), m.At)
	case api.MsgQuery:
		about()
	}
	return string(b)
}

// someOfEach: a plain valid message of each kind.
func someOfEach() []api.Msg {
	return []api.Msg{
		{Kind: api.MsgRead, From: 3, To: 1, Op: 7, At: stamp123, Reads: []api.Span{{Lo: "a", Hi: "b"}}},
		{Kind: api.MsgData, From: 1, To: 3, Op: 7, At: stamp123, Pairs: []api.Pair{{Key: "k", Value: "v"}, {Key: "l"}}},
		{Kind: api.MsgPrepare, From: 2, To: 0, Txn: txn21, Home: 1, At: stamp123, Reads: []api.Span{{Lo: "a", Hi: "b"}, {}}, Writes: []api.Write{{Key: "a", Value: "x"}, {Key: "b", Delete: true}}},
		{Kind: api.MsgVote, From: 0, To: 2, Txn: txn21, Home: 1, At: stamp123},
		{Kind: api.MsgCommit, From: 2, To: 1, Txn: txn21, Home: 1, At: stamp123},
		{Kind: api.MsgDone, From: 1, To: 2, Txn: txn21, Home: 1, Outcome: api.Committed, At: stamp123},
		{Kind: api.MsgDecide, From: 2, To: 0, Txn: txn21, Home: 1, Outcome: api.Committed, At: stamp123},
		{Kind: api.MsgQuery, From: 0, To: 1, Txn: txn21, Home: 1},
		{Kind: api.MsgTell, From: 1, To: 0, Txn: txn21, Home: 1, Outcome: api.Committed, At: stamp123},
	}
}

func one(kind api.Kind) api.Msg { return someOfEach()[kind-1] }

func keys(n int) []string {
	var list []string
	for i := range n {
		list = append(list, string([]byte{byte(i >> 8), byte(i)}))
	}
	return list
}

func pairs(keys ...string) []api.Pair {
	var list []api.Pair
	for _, k := range keys {
		list = append(list, api.Pair{Key: k, Value: "v"})
	}
	return list
}

func puts(keys ...string) []api.Write {
	var list []api.Write
	for _, k := range keys {
		list = append(list, api.Write{Key: k, Value: "v"})
	}
	return list
}

// greatest: messages at the upper edge of every limit.
func greatest() []api.Msg {
	top, topTxn := at(api.TopWall, api.TopLogical, math.MaxUint32), api.Txn{Client: math.MaxUint32, Seq: math.MaxUint32}
	long := func(b byte) string { return string(b) + strings.Repeat("\xff", api.MaxKey-1) }
	value := strings.Repeat("\x00", api.MaxValue)
	var spans []api.Span
	var writes []api.Write
	for i := range byte(16) {
		spans = append(spans, api.Span{Lo: long(i) + "a", Hi: long(i) + "b"})
		writes = append(writes, api.Write{Key: long(i), Value: value})
	}
	var list []api.Pair
	for _, k := range keys(api.MaxPairs) {
		list = append(list, api.Pair{Key: k + strings.Repeat("\xff", api.MaxKey-2), Value: value})
	}
	all := someOfEach()
	for i := range all {
		m := &all[i]
		m.From, m.To, m.At = math.MaxUint32, math.MaxUint32, top
		switch m.Kind {
		case api.MsgRead:
			m.Op, m.Reads = math.MaxUint32, spans[:1]
		case api.MsgData:
			m.Op, m.Pairs = math.MaxUint32, list
		case api.MsgPrepare:
			m.Reads, m.Writes = spans, writes
		case api.MsgQuery:
			m.At = api.Stamp{}
		}
		if m.Kind > api.MsgData {
			m.Txn, m.Home = topTxn, math.MaxUint32
		}
	}
	return all
}

// goodChanges: by kind, what a message of someOfEach may be changed to.
func goodChanges() []api.Msg {
	read, data, prepare, vote := one(api.MsgRead), one(api.MsgData), one(api.MsgPrepare), one(api.MsgVote)
	list := []api.Msg{
		with(read, func(m *api.Msg) { m.Reads = []api.Span{{}} }),
		with(read, func(m *api.Msg) { m.Reads = []api.Span{{Lo: strings.Repeat("z", api.MaxBound)}} }),
		with(read, func(m *api.Msg) { m.Reads = []api.Span{{Hi: "\x00"}} }),
		with(read, func(m *api.Msg) { m.Reads = []api.Span{{Lo: "a", Hi: "a\x00"}} }),
		with(read, func(m *api.Msg) { m.Reads = []api.Span{{Lo: "\x7f", Hi: "\x80"}} }),
		with(read, func(m *api.Msg) { m.At = api.Stamp{} }),
		with(read, func(m *api.Msg) { m.At.Wall = api.TopWall }),
		with(read, func(m *api.Msg) { m.From, m.To, m.Op = 0, 0, 0 }),
		with(read, func(m *api.Msg) { m.Writes, m.Pairs = []api.Write{}, []api.Pair{} }),
		with(data, func(m *api.Msg) { m.Pairs = nil }),
		with(data, func(m *api.Msg) { m.Pairs = []api.Pair{} }),
		with(data, func(m *api.Msg) { m.Pairs = pairs("\x00", "\x00\x00", "a", "aa", "b", "\xff") }),
		with(data, func(m *api.Msg) { m.Pairs, m.Reads, m.Writes = nil, []api.Span{}, []api.Write{} }),
		with(prepare, func(m *api.Msg) { m.Reads = nil }),
		with(prepare, func(m *api.Msg) { m.Writes = nil }),
		with(prepare, func(m *api.Msg) { m.Writes = []api.Write{} }),
		with(prepare, func(m *api.Msg) { m.Reads, m.Writes = make([]api.Span, api.MaxReads), nil }),
		with(prepare, func(m *api.Msg) { m.Reads = []api.Span{{Lo: "b", Hi: "z"}, {Lo: "a", Hi: "c"}, {Lo: "b", Hi: "z"}} }),
		with(prepare, func(m *api.Msg) { m.Writes = puts("\x00", "\x00\x00", "a", "aa", "b", "\xff") }),
		with(prepare, func(m *api.Msg) { m.Writes = []api.Write{{Key: "a"}, {Key: "b", Delete: true}} }),
		with(prepare, func(m *api.Msg) { m.Txn.Client, m.Home, m.At = 0, 0, api.Stamp{} }),
		with(vote, func(m *api.Msg) { m.At = api.Stamp{} }),
	}
	for _, s := range []api.Errno{api.ErrExhausted, api.ErrFull, api.ErrOld, api.ErrBusy, api.ErrMany} {
		list = append(list, with(data, func(m *api.Msg) { m.Status, m.Pairs = s, nil }))
	}
	for _, s := range []api.Errno{api.ErrExhausted, api.ErrFull, api.ErrOld, api.ErrConflict, api.ErrStale, api.ErrAborted} {
		list = append(list, with(vote, func(m *api.Msg) { m.Status, m.At = s, api.Stamp{} }))
	}
	for _, kind := range []api.Kind{api.MsgDone, api.MsgDecide, api.MsgTell} {
		list = append(list,
			with(one(kind), func(m *api.Msg) { m.At = api.Stamp{} }),
			with(one(kind), func(m *api.Msg) { m.Outcome, m.At = api.Aborted, api.Stamp{} }))
	}
	return list
}

// badFields: messages with a fault in a field that their kind names, so that plainPayload shows it too.
func badFields() []api.Msg {
	read, data, prepare, vote := one(api.MsgRead), one(api.MsgData), one(api.MsgPrepare), one(api.MsgVote)
	var list []api.Msg
	for _, spans := range [][]api.Span{
		nil, {{}, {}},
		{{Lo: "b", Hi: "a"}}, {{Lo: "a", Hi: "a"}}, {{Lo: "a\x00", Hi: "a"}}, {{Lo: "\x80", Hi: "\x7f"}},
		{{Lo: strings.Repeat("a", api.MaxBound+1)}},
		{{Lo: strings.Repeat("a", api.MaxBound+1), Hi: "b"}},
		{{Lo: "a", Hi: strings.Repeat("b", api.MaxBound+1)}},
	} {
		list = append(list, with(read, func(m *api.Msg) { m.Reads = spans }))
		if len(spans) == 1 {
			list = append(list,
				with(prepare, func(m *api.Msg) { m.Reads = spans }),
				with(prepare, func(m *api.Msg) { m.Reads = append([]api.Span{{}, {}}, spans...) }),
				with(prepare, func(m *api.Msg) { m.Reads = append(slices.Clone(spans), api.Span{}) }))
		}
	}
	list = append(list,
		with(prepare, func(m *api.Msg) { m.Reads = make([]api.Span, api.MaxReads+1) }),
		with(prepare, func(m *api.Msg) { m.Reads, m.Writes = nil, nil }),
		with(prepare, func(m *api.Msg) { m.Reads, m.Writes = []api.Span{}, []api.Write{} }),
		with(prepare, func(m *api.Msg) { m.Writes = []api.Write{{Key: "a", Value: strings.Repeat("v", api.MaxValue+1)}} }),
		with(data, func(m *api.Msg) { m.Pairs = []api.Pair{{Key: "a", Value: strings.Repeat("v", api.MaxValue+1)}} }),
		with(data, func(m *api.Msg) { m.Pairs = pairs(keys(api.MaxPairs + 1)...) }),
		with(prepare, func(m *api.Msg) { m.Writes = puts(keys(api.MaxWrites + 1)...) }),
		with(vote, func(m *api.Msg) { m.Status = api.ErrStale }),
		with(vote, func(m *api.Msg) { m.Status, m.At = api.ErrStale, at(0, 0, 1) }))
	for _, names := range [][]string{
		{""}, {"", "a"}, {"b", "a"}, {"a", "a"}, {"a", "b", "b"}, {"a", "c", "b"}, {"b", "c", "a"}, {"\x80", "\x7f"}, {"aa", "a"},
		{strings.Repeat("a", api.MaxKey+1)}, {"a", strings.Repeat("b", api.MaxKey+1)},
	} {
		list = append(list,
			with(data, func(m *api.Msg) { m.Pairs = pairs(names...) }),
			with(prepare, func(m *api.Msg) { m.Writes = puts(names...) }))
	}
	for s := api.Errno(-3); s < 300; s++ {
		if !slices.Contains([]api.Errno{0, 11, 60, 90, 140, 142}, s) {
			list = append(list, with(data, func(m *api.Msg) { m.Status, m.Pairs = s, nil }))
		}
		if !slices.Contains([]api.Errno{0, 11, 60, 90, 100, 141, 164}, s) {
			list = append(list, with(vote, func(m *api.Msg) { m.Status, m.At = s, api.Stamp{} }))
		}
		if slices.Contains([]api.Errno{11, 60, 90, 140, 142}, s) {
			list = append(list, with(data, func(m *api.Msg) { m.Status = s }))
		}
	}
	for _, kind := range []api.Kind{api.MsgDone, api.MsgDecide, api.MsgTell} {
		for _, stamp := range []api.Stamp{at(1, 0, 0), at(0, 1, 0), at(0, 0, 1)} {
			list = append(list, with(one(kind), func(m *api.Msg) { m.Outcome, m.At = api.Aborted, stamp }))
		}
		list = append(list, with(one(kind), func(m *api.Msg) { m.Outcome, m.At, m.Txn.Seq = api.Aborted, api.Stamp{}, 0 }))
		for _, o := range []api.Outcome{-1, 0, 3, 4, 255} {
			list = append(list, with(one(kind), func(m *api.Msg) { m.Outcome, m.At = o, api.Stamp{} }))
		}
	}
	for _, m := range someOfEach()[2:] {
		list = append(list, with(m, func(m *api.Msg) { m.Txn.Seq = 0 }))
	}
	return list
}

// setters: by the field's name, how to lay something into a field.
var setters = map[string]func(*api.Msg){
	"Client":  func(m *api.Msg) { m.Txn.Client = 9 },
	"Seq":     func(m *api.Msg) { m.Txn.Seq = 9 },
	"Home":    func(m *api.Msg) { m.Home = 9 },
	"Op":      func(m *api.Msg) { m.Op = 9 },
	"Wall":    func(m *api.Msg) { m.At.Wall = 9 },
	"Logical": func(m *api.Msg) { m.At.Logical = 9 },
	"Node":    func(m *api.Msg) { m.At.Node = 9 },
	"Status":  func(m *api.Msg) { m.Status = api.ErrOld },
	"Outcome": func(m *api.Msg) { m.Outcome = api.Committed },
	"Reads":   func(m *api.Msg) { m.Reads = []api.Span{{}} },
	"Writes":  func(m *api.Msg) { m.Writes = []api.Write{{Key: "k"}} },
	"Pairs":   func(m *api.Msg) { m.Pairs = []api.Pair{{Key: "k"}} },
}

// named: the fields that a kind names.
var named = map[api.Kind]string{
	api.MsgRead:    "Op Wall Logical Node Reads",
	api.MsgData:    "Op Wall Logical Node Status Pairs",
	api.MsgPrepare: "Client Seq Home Wall Logical Node Reads Writes",
	api.MsgVote:    "Client Seq Home Status Wall Logical Node",
	api.MsgCommit:  "Client Seq Home Wall Logical Node",
	api.MsgDone:    "Client Seq Home Outcome Wall Logical Node",
	api.MsgDecide:  "Client Seq Home Outcome Wall Logical Node",
	api.MsgQuery:   "Client Seq Home",
	api.MsgTell:    "Client Seq Home Outcome Wall Logical Node",
}

// strangers: messages with something in a field that their kind does not name.
func strangers() []api.Msg {
	var list []api.Msg
	for _, m := range someOfEach() {
		for field, set := range setters {
			if !slices.Contains(strings.Fields(named[m.Kind]), field) {
				list = append(list, with(m, set))
			}
		}
	}
	return list
}

// noKinds: messages whose kind is none.
func noKinds() []api.Msg {
	list := []api.Msg{{}, {Kind: 10}, {Kind: -1}, {Kind: math.MaxInt}, {Kind: math.MinInt}}
	for _, m := range someOfEach() {
		for _, step := range []api.Kind{-256, -9, 9, 256, 1 << 32} {
			list = append(list, with(m, func(m *api.Msg) { m.Kind += step }))
		}
		list = append(list, with(m, func(m *api.Msg) { m.Kind = 0 }))
	}
	return list
}

func allGood() []api.Msg {
	return slices.Concat(someOfEach(), greatest(), goodChanges(), randomMessages(500))
}

// P5.1
func TestValidMessages(t *testing.T) {
	for _, m := range allGood() {
		if e := Valid(m); e != api.OK {
			t.Errorf("Valid(%v) = %d", m, e)
		}
	}
}

// P5.1: each field, where it is named, may have something in it.
func TestNamedFieldsMayBeSet(t *testing.T) {
	for _, m := range someOfEach() {
		for _, field := range strings.Fields(named[m.Kind]) {
			changed := with(m, setters[field])
			switch field {
			case "Status":
				changed.Pairs, changed.At = nil, api.Stamp{}
			}
			if e := Valid(changed); e != api.OK {
				t.Errorf("Valid(%v) = %d: %s is named", changed, e, field)
			}
		}
	}
}

// P5.1, P5.2
func TestMessagesThatMayNotBe(t *testing.T) {
	wide := []api.Msg{
		with(one(api.MsgDone), func(m *api.Msg) { m.Outcome += 256 }),
		with(one(api.MsgTell), func(m *api.Msg) { m.Outcome = math.MinInt }),
		with(one(api.MsgVote), func(m *api.Msg) { m.Status = 1 << 32 }),
		with(one(api.MsgData), func(m *api.Msg) { m.Status = math.MinInt }),
		with(one(api.MsgPrepare), func(m *api.Msg) { m.Writes = []api.Write{{Key: "a", Delete: true, Value: "x"}} }),
		with(one(api.MsgPrepare), func(m *api.Msg) { m.Writes = []api.Write{{Key: "a"}, {Key: "b", Delete: true, Value: "\x00"}} }),
		with(one(api.MsgPrepare), func(m *api.Msg) { m.Writes = []api.Write{{Key: "a", Delete: true}, {Key: "a", Delete: true}} }),
	}
	for _, m := range slices.Concat(badFields(), strangers(), noKinds(), wide) {
		if e := Valid(m); e != api.ErrMsg {
			t.Errorf("Valid(%v) = %d, want ErrMsg", m, e)
		}
		if b, e := Encode(m); b != "" || e != api.ErrMsg {
			t.Errorf("Encode(%v) = %x, %d, want ErrMsg", m, b, e)
		}
	}
}

// P5.2, P5.3
func TestExamplesAsBytes(t *testing.T) {
	for _, c := range []struct {
		m       api.Msg
		payload string
	}{
		{api.Msg{Kind: api.MsgQuery, From: 1, Txn: api.Txn{Client: 300, Seq: 2}}, "08 01 00 ac 02 02 00"},
		{api.Msg{Kind: api.MsgRead, From: 3, To: 1, Op: 7, At: stamp123, Reads: []api.Span{{Lo: "a", Hi: "b"}}}, "01 03 01 07 0000000000000001 00000002 00000003 01 61 01 62"},
		{api.Msg{Kind: api.MsgData, From: 1, To: 3, Op: 7, At: stamp123, Pairs: []api.Pair{{Key: "k"}}}, "02 01 03 07 0000000000000001 00000002 00000003 00 01 01 6b 00"},
		{api.Msg{Kind: api.MsgData, From: 1, To: 3, Op: 7, At: stamp123, Status: api.ErrBusy}, "02 01 03 07 0000000000000001 00000002 00000003 8c 01 00"},
		{api.Msg{Kind: api.MsgVote, To: 2, Txn: txn21, Status: api.ErrStale}, "04 00 02 02 01 00 8d 01 0000000000000000 00000000 00000000"},
		{api.Msg{Kind: api.MsgCommit, From: 2, To: 3, Txn: txn21, Home: 3, At: stamp123}, "05 02 03 02 01 03 0000000000000001 00000002 00000003"},
		{api.Msg{Kind: api.MsgDone, To: 2, Txn: txn21, Outcome: api.Committed, At: stamp123}, "06 00 02 02 01 00 01 0000000000000001 00000002 00000003"},
		{api.Msg{Kind: api.MsgDecide, From: 2, To: 1, Txn: txn21, Outcome: api.Aborted}, "07 02 01 02 01 00 02 0000000000000000 00000000 00000000"},
		{api.Msg{Kind: api.MsgTell, To: 1, Txn: txn21, Outcome: api.Committed, At: stamp123}, "09 00 01 02 01 00 01 0000000000000001 00000002 00000003"},
		{api.Msg{Kind: api.MsgPrepare, From: 2, Txn: txn21, At: at(9, 0, 2), Reads: []api.Span{{Lo: "a", Hi: "a\x00"}}, Writes: []api.Write{{Key: "a", Value: "x"}, {Key: "b", Delete: true}}}, "03 02 00 02 01 00 0000000000000009 00000000 00000002 01 01 61 02 61 00 02 01 61 00 01 78 01 62 01"},
	} {
		want := plainFrame(fromHex(t, c.payload))
		if b, e := Encode(c.m); b != want || e != api.OK {
			t.Errorf("Encode(%v) = %x, %d, want %x", c.m, b, e, want)
		}
		if m, e := Decode(want); !alike(m, c.m) || e != api.OK {
			t.Errorf("Decode(%x) = %v, %d, want %v", want, m, e, c.m)
		}
	}
}

// P5.2, P5.3, P5.4
func TestEncodeAndBack(t *testing.T) {
	for _, m := range allGood() {
		b, e := Encode(m)
		if want := plainFrame(plainPayload(m)); b != want || e != api.OK {
			t.Fatalf("Encode(%v) = %x, %d, want %x", m, b, e, want)
		}
		if len(b) >= 52_000+8 {
			t.Errorf("Encode(%v) has %d bytes", m, len(b))
		}
		if back, e := Decode(b); !alike(back, m) || e != api.OK {
			t.Fatalf("Decode(Encode(%v)) = %v, %d", m, back, e)
		}
	}
}

// P5.4
func TestNoTwoMessagesHaveOneText(t *testing.T) {
	seen := map[string]api.Msg{}
	for _, m := range allGood() {
		b, _ := Encode(m)
		if other, ok := seen[b]; ok && !alike(other, m) {
			t.Errorf("%v and %v have one text", other, m)
		}
		seen[b] = m
	}
}

func checkRefused(t *testing.T, b string, want api.Errno) {
	t.Helper()
	if m, e := Decode(b); !reflect.DeepEqual(m, api.Msg{}) || e != want {
		t.Errorf("Decode(%x) = %v, %d, want zero, %d", b, m, e, want)
	}
}

// P5.3
func TestDecodeRefusesTexts(t *testing.T) {
	query, _ := Encode(one(api.MsgQuery))
	spoilt := query[:len(query)-1] + "\x7e"
	tooLong := "\x00\x10\x00\x01" + strings.Repeat("\x00", 1<<20+5)
	for _, c := range []struct {
		b    string
		want api.Errno
	}{
		{"", api.ErrShort},
		{"\x00\x00\x00\x00\x21\x44\xdf", api.ErrShort},
		{query[:7], api.ErrShort},
		{tooLong[:8], api.ErrFrame},
		{tooLong, api.ErrFrame},
		{spoilt, api.ErrFrame},
		{spoilt + "\x00", api.ErrFrame}, // the frame's error comes ahead of the bytes behind it
		{query + "\x00", api.ErrForm},
		{query + query, api.ErrForm},
		{plainFrame("") + "\x00", api.ErrForm}, // the bytes behind come ahead of the payload's fault
		{plainFrame("\x0a\x00\x00") + query, api.ErrForm},
		{plainFrame(""), api.ErrMsg},
		{plainFrame("\x0a\x00\x00"), api.ErrMsg},
	} {
		checkRefused(t, c.b, c.want)
	}
}

// P5.3
func TestDecodeRefusesPayloads(t *testing.T) {
	for _, p := range []string{
		"00", "00 00 00", "0a 00 00", "08", "ff", "09 00",
		"08 81 00 00 02 02 00",          // From is 1 in two bytes
		"08 01 80 00 02 02 00",          // To
		"08 01 00 82 00 01 00",          // Client
		"08 01 00 02 81 00 00",          // Seq
		"08 01 00 02 01 80 00",          // Home
		"08 80 80 80 80 10 00 02 01 00", // From is 2^32
		"08 00 80 80 80 80 10 02 01 00", // To
		"08 00 00 80 80 80 80 10 01 00", // Client
		"08 00 00 02 81 80 80 80 10 00", // Seq is 2^32 + 1
		"08 00 00 02 01 80 80 80 80 10", // Home
		"08 00 00 02 01 ff ff ff ff ff ff ff ff ff 01",
		"01 00 00 80 80 80 80 10 0000000000000000 00000000 00000000 00 00", // Op
		"01 00 00 07 0000000000000000 00000000 00000000 80 00 00",          // the length of Lo
		"02 00 00 07 0000000000000000 00000000 00000000 80 80 80 80 10 00", // Status is 2^32
		"02 00 00 07 0000000000000000 00000000 00000000 80 80 80 80 80 80 80 80 80 01 00",
		"02 00 00 07 0000000000000000 00000000 00000000 ff ff ff ff ff ff ff ff ff 01 00",
		"02 00 00 07 0000000000000000 00000000 00000000 80 00 00",                // Status is 0 in two bytes
		"02 00 00 07 0000000000000000 00000000 00000000 00 80 00",                // how many pairs
		"02 00 00 07 0000000000000000 00000000 00000000 00 01",                   // a pair that is not there
		"02 00 00 07 0000000000000000 00000000 00000000 00 81 04",                // 513 pairs that are not there
		"02 00 00 07 0000000000000000 00000000 00000000 00 80 80 80 80 10",       // 2^32 pairs
		"03 00 00 02 01 00 0000000000000000 00000000 00000000 00 01 01 61 02",    // Delete is neither
		"03 00 00 02 01 00 0000000000000000 00000000 00000000 00 01 01 61 01 00", // a deletion with a value
		"03 00 00 02 01 00 0000000000000000 00000000 00000000 00 01 01 61 00",    // a put without one
		"03 00 00 02 01 00 0000000000000000 00000000 00000000 01 00 00",          // no count of writes
		"07 02 01 02 01 00 82 00 0000000000000000 00000000 00000000",             // Outcome is one byte
	} {
		checkRefused(t, plainFrame(fromHex(t, p)), api.ErrMsg)
	}
	for _, m := range append(badFields(), noKinds()...) {
		if m.Kind >= 0 && m.Kind < 256 {
			checkRefused(t, plainFrame(plainPayload(m)), api.ErrMsg)
		}
	}
}

// P5.3: a payload that ends early or goes on is refused too, in a frame that is sound.
func TestDecodeRefusesPayloadsOfAnotherLength(t *testing.T) {
	for _, m := range slices.Concat(someOfEach(), goodChanges()) {
		payload := plainPayload(m)
		for n := range payload {
			checkRefused(t, plainFrame(payload[:n]), api.ErrMsg)
		}
		for _, more := range []string{"\x00", "\x01", "\xff", payload} {
			checkRefused(t, plainFrame(payload+more), api.ErrMsg)
		}
	}
}

// P5.4: a payload is changed in any one byte and laid into a frame that is sound: if it is a message, then just that one's text.
func TestWhatIsDecodedGivesTheSameBytes(t *testing.T) {
	decoded := 0
	for _, m := range slices.Concat(someOfEach(), goodChanges()[:20]) {
		payload := plainPayload(m)
		for i := range payload {
			for v := range 256 {
				b := plainFrame(payload[:i] + string([]byte{byte(v)}) + payload[i+1:])
				got, e := Decode(b)
				if e == api.ErrMsg {
					continue
				}
				if e != api.OK || Valid(got) != api.OK {
					t.Fatalf("Decode(%x) = %v, %d", b, got, e)
				}
				if again, e := Encode(got); again != b || e != api.OK {
					t.Fatalf("Decode(%x) = %v, whose text is %x, %d", b, got, again, e)
				}
				decoded++
			}
		}
	}
	if decoded < 10_000 {
		t.Errorf("only %d payloads were messages", decoded)
	}
}

// P5.5
func TestOneBitTurned(t *testing.T) {
	for _, m := range slices.Concat(someOfEach(), goodChanges(), randomMessages(50)) {
		text, _ := Encode(m)
		for i := range text {
			for bit := range 8 {
				b := []byte(text)
				b[i] ^= 1 << bit
				if got, e := Decode(string(b)); !reflect.DeepEqual(got, api.Msg{}) || e == api.OK {
					t.Errorf("Decode(%x) = %v, %d, with bit %d of byte %d turned", b, got, e, bit, i)
				}
			}
		}
	}
}

// P5.5
func TestCutShort(t *testing.T) {
	for _, m := range slices.Concat(someOfEach(), goodChanges(), randomMessages(50)) {
		text, _ := Encode(m)
		for n := range text {
			checkRefused(t, text[:n], api.ErrShort)
		}
	}
}

// P5.6
func TestListsHandedInStayAsTheyAre(t *testing.T) {
	for _, good := range slices.Concat(someOfEach(), badFields()) {
		m, kept := roomy(good), roomy(good)
		Valid(m)
		Encode(m)
		if !reflect.DeepEqual(whole(m), whole(kept)) {
			t.Errorf("%v was changed to %v", whole(kept), whole(m))
		}
	}
}

// roomy gives a message whose lists have spare room with something in it.
func roomy(m api.Msg) api.Msg {
	m.Reads = append(slices.Clone(m.Reads), api.Span{Lo: "spare"})[:len(m.Reads)]
	m.Writes = append(slices.Clone(m.Writes), api.Write{Key: "spare"})[:len(m.Writes)]
	m.Pairs = append(slices.Clone(m.Pairs), api.Pair{Key: "spare"})[:len(m.Pairs)]
	return m
}

// whole shows the first place of the lists' spare room as well.
func whole(m api.Msg) api.Msg {
	m.Reads, m.Writes, m.Pairs = m.Reads[:len(m.Reads)+1], m.Writes[:len(m.Writes)+1], m.Pairs[:len(m.Pairs)+1]
	return m
}

// P5.6
func TestListsHandedInAreNotKept(t *testing.T) {
	for _, m := range []api.Msg{one(api.MsgRead), one(api.MsgData), one(api.MsgPrepare)} {
		before, _ := Encode(m)
		changed := with(m, overwrite)
		after, e := Encode(changed)
		if e != api.OK || after != plainFrame(plainPayload(changed)) {
			t.Errorf("Encode(%v) = %x, %d behind a change of its lists", changed, after, e)
		}
		if back, _ := Decode(before); alike(back, changed) {
			t.Errorf("the text of %v has changed with the lists", back)
		}
	}
}

// overwrite changes the lists of a message where they lie.
func overwrite(m *api.Msg) {
	for i := range m.Reads {
		m.Reads[i] = api.Span{Lo: "other"}
	}
	for i := range m.Writes {
		m.Writes[i] = api.Write{Key: "other" + string(rune('a'+i))}
	}
	for i := range m.Pairs {
		m.Pairs[i] = api.Pair{Key: "other" + string(rune('a'+i))}
	}
}

// P5.6
func TestListsHandedOutAreNew(t *testing.T) {
	for _, m := range []api.Msg{one(api.MsgRead), one(api.MsgData), one(api.MsgPrepare)} {
		text, _ := Encode(m)
		first, _ := Decode(text)
		second, _ := Decode(text)
		overwrite(&first)
		first.Reads = append(first.Reads, api.Span{Lo: "more"})
		first.Writes = append(first.Writes, api.Write{Key: "more"})
		first.Pairs = append(first.Pairs, api.Pair{Key: "more"})
		if !alike(second, m) {
			t.Errorf("another answer has changed to %v", second)
		}
		if third, e := Decode(text); !alike(third, m) || e != api.OK {
			t.Errorf("Decode answers %v, %d behind a change of what it answered", third, e)
		}
	}
}

// randomMessages gives valid messages of all kinds, by a seed.
func randomMessages(n int) []api.Msg {
	r := rand.New(rand.NewSource(5))
	var list []api.Msg
	for range n {
		list = append(list, randomMessage(r))
	}
	return list
}

func randomMessage(r *rand.Rand) api.Msg {
	m := api.Msg{Kind: api.Kind(1 + r.Intn(9)), From: randomNumber(r), To: randomNumber(r)}
	stamp := at(r.Uint64()>>r.Intn(64), randomNumber(r), randomNumber(r))
	if m.Kind > api.MsgData {
		m.Txn, m.Home = api.Txn{Client: randomNumber(r), Seq: max(1, randomNumber(r))}, randomNumber(r)
	} else {
		m.Op = randomNumber(r)
	}
	switch m.Kind {
	case api.MsgRead:
		m.At, m.Reads = stamp, randomSpans(r, 1)
	case api.MsgData:
		m.At = stamp
		if m.Status = []api.Errno{0, 0, 0, 11, 60, 90, 140, 142}[r.Intn(8)]; m.Status == api.OK {
			for _, k := range randomKeys(r, r.Intn(10)) {
				m.Pairs = append(m.Pairs, api.Pair{Key: k, Value: randomText(r, api.MaxValue)})
			}
		}
	case api.MsgPrepare:
		m.At, m.Reads, m.Writes = stamp, randomSpans(r, r.Intn(api.MaxReads+1)), randomWrites(r, 1+r.Intn(api.MaxWrites))
	case api.MsgVote:
		if m.Status = []api.Errno{0, 0, 0, 11, 60, 90, 100, 141, 164}[r.Intn(9)]; m.Status == api.OK {
			m.At = stamp
		}
	case api.MsgCommit:
		m.At = stamp
	case api.MsgDone, api.MsgDecide, api.MsgTell:
		if m.Outcome = api.Outcome(1 + r.Intn(2)); m.Outcome == api.Committed {
			m.At = stamp
		}
	}
	return m
}

func randomNumber(r *rand.Rand) uint32 { return r.Uint32() >> r.Intn(33) }

func randomText(r *rand.Rand, most int) string {
	b := make([]byte, r.Intn(most+1))
	r.Read(b)
	return string(b)
}

func randomSpans(r *rand.Rand, n int) []api.Span {
	var list []api.Span
	for range n {
		lo, hi := randomText(r, api.MaxBound), randomText(r, api.MaxBound)
		if lo >= hi {
			hi = ""
		}
		list = append(list, api.Span{Lo: lo, Hi: hi})
	}
	return list
}

func randomKeys(r *rand.Rand, n int) []string {
	var list []string
	for range n {
		if k := randomText(r, api.MaxKey); k != "" {
			list = append(list, k)
		}
	}
	slices.Sort(list)
	return slices.Compact(list)
}

func randomWrites(r *rand.Rand, n int) []api.Write {
	list := []api.Write{{Key: "\x00", Delete: true}}
	for _, k := range randomKeys(r, n-1) {
		if k <= "\x00" {
			continue
		}
		w := api.Write{Key: k, Delete: r.Intn(3) == 0}
		if !w.Delete {
			w.Value = randomText(r, api.MaxValue)
		}
		list = append(list, w)
	}
	return list
}
