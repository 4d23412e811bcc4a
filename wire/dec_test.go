package wire

import (
	"math"
	"math/rand"
	"runtime"
	"slices"
	"strings"
	"testing"

	"tidemark/api"
)

const topNumber = uint64(math.MaxUint64)

func wantLeft(t *testing.T, d *Dec, want int) {
	t.Helper()
	if got := d.Left(); got != want {
		t.Errorf("Left = %d, want %d", got, want)
	}
}

func wantEnd(t *testing.T, d *Dec, want api.Errno) {
	t.Helper()
	if got := d.End(); got != want {
		t.Errorf("End = %d, want %d", got, want)
	}
}

// wantStopped holds a decoder to the words of one that has stopped, at each of the takes, again and again.
func wantStopped(t *testing.T, d *Dec, want api.Errno) {
	t.Helper()
	for range 2 {
		wantLeft(t, d, 0)
		wantEnd(t, d, want)
		if v := d.Byte(); v != 0 {
			t.Errorf("Byte of a stopped decoder = %d", v)
		}
		if v := d.Flag(); v {
			t.Errorf("Flag of a stopped decoder = %v", v)
		}
		if v := d.Var(topNumber); v != 0 {
			t.Errorf("Var of a stopped decoder = %d", v)
		}
		if v := d.Text(math.MaxInt); v != "" {
			t.Errorf("Text of a stopped decoder = %q", v)
		}
		if v := d.Texts(math.MaxInt, math.MaxInt); len(v) != 0 {
			t.Errorf("Texts of a stopped decoder = %q", v)
		}
		for _, n := range []int{0, 1, -1} {
			if v := d.Raw(n); v != "" {
				t.Errorf("Raw(%d) of a stopped decoder = %q", n, v)
			}
		}
		if v := d.Stamp(); v != (api.Stamp{}) {
			t.Errorf("Stamp of a stopped decoder = %v", v)
		}
	}
}

func TestTakesGoOnBehindOneAnother(t *testing.T) { // P3.3
	d := Open("\x07" + "\x01" + "\x00" + "\xac\x02" + "\x02ab" + "\x02\x01x\x02yz" + "raw" + someStampBytes + "\x09")
	left := 3 + 2 + 3 + 6 + 3 + 16 + 1
	wantLeft(t, d, left)
	took := func(ok bool, what string, bytes int) {
		t.Helper()
		if !ok {
			t.Errorf("%s took something else", what)
		}
		left -= bytes
		wantLeft(t, d, left)
	}
	took(d.Byte() == 7, "Byte", 1)
	took(d.Flag() == true, "Flag of 01", 1)
	took(d.Flag() == false, "Flag of 00", 1)
	took(d.Var(300) == 300, "Var", 2)
	took(d.Text(2) == "ab", "Text", 3)
	took(slices.Equal(d.Texts(2, 2), []string{"x", "yz"}), "Texts", 6)
	took(d.Raw(3) == "raw", "Raw", 3)
	took(d.Raw(0) == "", "Raw of nothing", 0)
	took(d.Stamp() == someStamp, "Stamp", 16)
	took(d.Byte() == 9, "Byte", 1)
	wantEnd(t, d, api.OK)
}

func TestByteTakesAnyByte(t *testing.T) { // P3.3, P3.4
	for v := range 256 {
		d := Open(string([]byte{byte(v)}))
		if got := d.Byte(); got != byte(v) {
			t.Errorf("Byte = %d, want %d", got, v)
		}
		wantEnd(t, d, api.OK)
		if got := d.Byte(); got != 0 {
			t.Errorf("Byte of nothing = %d", got)
		}
		wantStopped(t, d, api.ErrShort)
	}
}

func TestFlagTakesOneAndZeroAlone(t *testing.T) { // P3.3, P3.4
	for v := range 256 {
		d := Open(string([]byte{byte(v), 1}))
		if got := d.Flag(); got != (v == 1) {
			t.Errorf("Flag of %02x = %v", v, got)
		}
		if v > 1 {
			wantStopped(t, d, api.ErrForm)
		} else {
			wantLeft(t, d, 1)
		}
	}
	d := Open("")
	if d.Flag() {
		t.Errorf("Flag of nothing = true")
	}
	wantStopped(t, d, api.ErrShort)
}

func TestVarTakesANumber(t *testing.T) { // P3.3, P3.4
	nine := strings.Repeat("\xff", 9)
	zeros := strings.Repeat("\x80", 9)
	for _, c := range []struct {
		bytes string
		max   uint64
		want  uint64
		end   api.Errno
	}{
		{"\x00", 0, 0, api.OK}, {"\x7f", 127, 127, api.OK}, {"\x80\x01", 128, 128, api.OK}, {"\xac\x02", 300, 300, api.OK},
		{"\xac\x02", topNumber, 300, api.OK}, {nine + "\x01", topNumber, topNumber, api.OK},
		{zeros + "\x01", 1 << 63, 1 << 63, api.OK}, {"\xff\xff\xff\xff\xff\xff\xff\xff\x7f", 1<<63 - 1, 1<<63 - 1, api.OK},

		{"\x01", 0, 0, api.ErrForm}, {"\x7f", 126, 0, api.ErrForm}, {"\xac\x02", 299, 0, api.ErrForm}, {"\xac\x02", 0, 0, api.ErrForm},
		{nine + "\x01", topNumber - 1, 0, api.ErrForm}, {zeros + "\x01", 1<<63 - 1, 0, api.ErrForm},

		{"", topNumber, 0, api.ErrShort}, {"", 0, 0, api.ErrShort}, {"\x80", 9, 0, api.ErrShort}, {"\xff", 0, 0, api.ErrShort},
		{nine, topNumber, 0, api.ErrShort}, {nine, 0, 0, api.ErrShort}, {zeros, 0, 0, api.ErrShort},

		{nine + "\x02", topNumber, 0, api.ErrForm}, {zeros + "\x02", topNumber, 0, api.ErrForm}, {zeros + "\x03", topNumber, 0, api.ErrForm},
		{nine + "\x7f", topNumber, 0, api.ErrForm}, {nine + "\x80", topNumber, 0, api.ErrForm}, {nine + "\x81", topNumber, 0, api.ErrForm},
		{nine + "\xff\x01", topNumber, 0, api.ErrForm}, {zeros + "\x80\x01", topNumber, 0, api.ErrForm}, {zeros + zeros, topNumber, 0, api.ErrForm},

		{"\x80\x00", 9, 0, api.ErrForm}, {"\xff\x00", topNumber, 0, api.ErrForm}, {"\x80\x80\x00", 9, 0, api.ErrForm},
		{zeros + "\x00", topNumber, 0, api.ErrForm}, {nine + "\x00", topNumber, 0, api.ErrForm},
	} {
		d := Open(c.bytes)
		if got := d.Var(c.max); got != c.want {
			t.Errorf("%x: Var(%d) = %d, want %d", c.bytes, c.max, got, c.want)
		}
		wantEnd(t, d, c.end)
		if c.end != api.OK {
			wantStopped(t, d, c.end)
		}
	}
}

func TestVarEndsAtTheFirstByteBelow128(t *testing.T) { // P3.3
	d := Open("\x05\x00\xff\x00")
	if a, b := d.Var(5), d.Var(0); a != 5 || b != 0 {
		t.Errorf("Var = %d, %d, want 5, 0", a, b)
	}
	wantLeft(t, d, 2)
	if v := d.Byte(); v != 0xff {
		t.Errorf("Byte = %x, want ff", v)
	}
}

func TestTextTakesItsLengthAndItsBytes(t *testing.T) { // P3.3, P3.4
	long := strings.Repeat("q", 300)
	for _, c := range []struct {
		bytes string
		max   int
		want  string
		end   api.Errno
	}{
		{"\x00", 0, "", api.OK}, {"\x00", -1, "", api.OK}, {"\x00", math.MinInt, "", api.OK}, {"\x02ab", 2, "ab", api.OK}, {"\x02ab", math.MaxInt, "ab", api.OK},
		{"\x03\x00\xff\x80", 3, "\x00\xff\x80", api.OK}, {"\xac\x02" + long, 300, long, api.OK},

		{"\x02ab", 1, "", api.ErrForm}, {"\x01a", 0, "", api.ErrForm}, {"\x01a", -1, "", api.ErrForm}, {"\x01a", math.MinInt, "", api.ErrForm},
		{"\xac\x02" + long, 299, "", api.ErrForm}, {"\x80\x00", 9, "", api.ErrForm},
		{"\x02a", 1, "", api.ErrForm}, {"\x02", 1, "", api.ErrForm}, // the length is looked at first
		{"\xff\xff\xff\xff\xff\xff\xff\xff\xff\x01", math.MaxInt, "", api.ErrForm},

		{"", 9, "", api.ErrShort}, {"", 0, "", api.ErrShort}, {"\x80", 9, "", api.ErrShort}, {"\x02", 2, "", api.ErrShort}, {"\x02a", 2, "", api.ErrShort},
		{"\xac\x02" + long[1:], 300, "", api.ErrShort},
		{"\xff\xff\xff\xff\xff\xff\xff\xff\x7fa", math.MaxInt, "", api.ErrShort}, // 2^63 - 1 bytes are said to follow
	} {
		d := Open(c.bytes)
		if got := d.Text(c.max); got != c.want {
			t.Errorf("%x: Text(%d) = %q, want %q", c.bytes, c.max, got, c.want)
		}
		wantEnd(t, d, c.end)
		if c.end != api.OK {
			wantStopped(t, d, c.end)
		}
	}
}

func TestTextsTakesTheirNumberAndEachOne(t *testing.T) { // P3.3, P3.4
	for _, c := range []struct {
		bytes      string
		count, max int
		want       []string
		end        api.Errno
	}{
		{"\x00", 0, 0, nil, api.OK}, {"\x00", -1, -1, nil, api.OK}, {"\x00", math.MinInt, math.MinInt, nil, api.OK}, {"\x00", math.MaxInt, math.MaxInt, nil, api.OK},
		{"\x03\x01x\x00\x02yz", 3, 2, []string{"x", "", "yz"}, api.OK}, {"\x03\x01x\x00\x02yz", math.MaxInt, math.MaxInt, []string{"x", "", "yz"}, api.OK},
		{"\x02\x00\x00", 2, -1, []string{"", ""}, api.OK}, {"\x01\x00", 1, 0, []string{""}, api.OK},

		{"\x02\x01a\x01b", 1, 9, nil, api.ErrForm}, {"\x01\x00", 0, 9, nil, api.ErrForm}, {"\x01\x00", -1, 9, nil, api.ErrForm}, {"\x01\x00", math.MinInt, 9, nil, api.ErrForm},
		{"\x02\x01a\x02bc", 2, 1, nil, api.ErrForm}, {"\x02\x01a\x01b", 2, 0, nil, api.ErrForm}, {"\x02\x00\x01b", 2, -5, nil, api.ErrForm},
		{"\x82\x00\x01a\x01b", 9, 9, nil, api.ErrForm}, {"\x02\x01a\x81\x00b", 9, 9, nil, api.ErrForm},

		{"", 9, 9, nil, api.ErrShort}, {"\x80", 9, 9, nil, api.ErrShort}, {"\x01", 1, 9, nil, api.ErrShort},
		{"\x03\x01a\x01b", 3, 9, nil, api.ErrShort}, {"\x02\x01a\x02b", 2, 9, nil, api.ErrShort},

		// the first error of the texts, in their order
		{"\x03\x01a\x09b\x01", 3, 9, nil, api.ErrShort}, {"\x03\x01a\x09b\x01", 3, 8, nil, api.ErrForm}, {"\x03\x80\x00", 3, 9, nil, api.ErrForm},
		{"\x03\x01a\x01b", 2, 9, nil, api.ErrForm}, // the number is looked at ahead of the texts
	} {
		d := Open(c.bytes)
		if got := d.Texts(c.count, c.max); !slices.Equal(got, c.want) {
			t.Errorf("%x: Texts(%d, %d) = %q, want %q", c.bytes, c.count, c.max, got, c.want)
		}
		wantEnd(t, d, c.end)
		if c.end != api.OK {
			wantStopped(t, d, c.end)
		}
	}
}

// allocated tells how many bytes of memory a call takes.
func allocated(call func()) uint64 {
	var before, behind runtime.MemStats
	runtime.ReadMemStats(&before)
	call()
	runtime.ReadMemStats(&behind)
	return behind.TotalAlloc - before.TotalAlloc
}

func TestAGreatNumberOfTextsCostsNothingAheadOfThem(t *testing.T) { // P3.4
	top := "\xff\xff\xff\xff\xff\xff\xff\xff\x7f" // 2^63 - 1
	for _, bytes := range []string{top, top + "\x01a\x00", "\x80\x80\x80\x20" + strings.Repeat("\x00", 1000)} {
		d := Open(bytes)
		cost := allocated(func() {
			if got := d.Texts(math.MaxInt, 9); len(got) != 0 {
				t.Errorf("Texts = %q", got)
			}
		})
		if cost > 1<<20 {
			t.Errorf("%d bytes took %d bytes of memory", len(bytes), cost)
		}
		wantStopped(t, d, api.ErrShort)
	}
}

func TestTextsGivesANewList(t *testing.T) { // P3.3
	bytes := "\x02\x01a\x01b"
	d := Open(bytes + bytes)
	first, second := d.Texts(9, 9), d.Texts(9, 9)
	third := Open(bytes).Texts(9, 9)
	for _, list := range [][]string{first, second, third} {
		if !slices.Equal(list, []string{"a", "b"}) {
			t.Errorf("Texts = %q", list)
		}
		list[0] = "changed"
		list = append(list, "more")
		list[1] = "changed"
	}
}

func TestRawTakesSoManyBytes(t *testing.T) { // P3.3, P3.4
	for _, c := range []struct {
		n    int
		want string
		left int
	}{{0, "", 3}, {-1, "", 3}, {math.MinInt, "", 3}, {1, "\x00", 2}, {2, "\x00\xff", 1}, {3, "\x00\xffc", 0}} {
		d := Open("\x00\xffc")
		if got := d.Raw(c.n); got != c.want {
			t.Errorf("Raw(%d) = %q, want %q", c.n, got, c.want)
		}
		wantLeft(t, d, c.left)
	}
	for _, n := range []int{4, 5, math.MaxInt} {
		d := Open("\x00\xffc")
		if got := d.Raw(n); got != "" {
			t.Errorf("Raw(%d) = %q", n, got)
		}
		wantStopped(t, d, api.ErrShort)
	}
}

func TestStampTakesSixteenBytes(t *testing.T) { // P3.3, P3.4
	for _, c := range []struct {
		bytes string
		want  api.Stamp
	}{
		{someStampBytes, someStamp},
		{strings.Repeat("\xff", 16), api.Stamp{Wall: 1<<64 - 1, Logical: 1<<32 - 1, Node: 1<<32 - 1}},
	} {
		d := Open(c.bytes + "\x05")
		if got := d.Stamp(); got != c.want {
			t.Errorf("Stamp of %x = %v, want %v", c.bytes, got, c.want)
		}
		wantLeft(t, d, 1)
		for n := range 16 {
			d := Open(c.bytes[:n])
			if got := d.Stamp(); got != (api.Stamp{}) {
				t.Errorf("Stamp of %d bytes = %v", n, got)
			}
			wantStopped(t, d, api.ErrShort)
		}
	}
}

func TestADecoderKeepsItsFirstError(t *testing.T) { // P3.4
	d := Open("\x02\x01\x01\x01")
	d.Flag()
	wantStopped(t, d, api.ErrForm) // and not ErrShort, though bytes were left
	d = Open("\x05ab\x02")
	d.Text(9)
	wantStopped(t, d, api.ErrShort)
}

func TestEndAndLeftChangeNothing(t *testing.T) { // P3.5
	d := Open("\x01\x01")
	for _, c := range []struct {
		left int
		end  api.Errno
	}{{2, api.ErrForm}, {1, api.ErrForm}, {0, api.OK}} {
		for range 3 {
			wantEnd(t, d, c.end)
			wantLeft(t, d, c.left)
		}
		if c.left > 0 && !d.Flag() {
			t.Errorf("Flag = false with %d bytes left", c.left)
		}
	}
	wantEnd(t, Open(""), api.OK)
}

func TestADecAsGoMakesItHasNothingToTake(t *testing.T) { // P3.6
	for _, take := range []func(d *Dec){
		func(d *Dec) { d.Byte() }, func(d *Dec) { d.Flag() }, func(d *Dec) { d.Var(9) }, func(d *Dec) { d.Text(9) },
		func(d *Dec) { d.Texts(9, 9) }, func(d *Dec) { d.Raw(1) }, func(d *Dec) { d.Stamp() },
	} {
		var made Dec
		for _, d := range []*Dec{&made, Open("")} {
			wantLeft(t, d, 0)
			wantEnd(t, d, api.OK)
			if d.Raw(0) != "" || d.Raw(-1) != "" {
				t.Errorf("Raw of nothing is something")
			}
			wantEnd(t, d, api.OK)
			take(d)
			wantStopped(t, d, api.ErrShort)
		}
	}
}

func TestTwoDecodersAreApart(t *testing.T) { // P3.6
	text := "\x01\x02ab"
	a, b := Open(text), Open(text)
	a.Flag()
	wantLeft(t, a, 3)
	wantLeft(t, b, 4)
	copied := *a
	a.Flag()
	wantStopped(t, a, api.ErrForm)
	if b.Byte() != 1 || b.Text(2) != "ab" {
		t.Errorf("a decoder of the same text took something else")
	}
	wantEnd(t, b, api.OK)
	if copied.Text(2) != "ab" {
		t.Errorf("a copied decoder took something else")
	}
	wantEnd(t, &copied, api.OK)
}

// item is a value of one of the kinds that are added and taken.
type item struct {
	kind   int
	number uint64
	text   string
	texts  []string
	stamp  api.Stamp
}

const kinds = 7

func (i item) add(e *Enc) {
	switch i.kind {
	case 0:
		e.Byte(byte(i.number))
	case 1:
		e.Flag(i.number == 1)
	case 2:
		e.Var(i.number)
	case 3:
		e.Text(i.text)
	case 4:
		e.Texts(i.texts...)
	case 5:
		e.Raw(i.text)
	case 6:
		e.Stamp(i.stamp)
	}
}

// take takes a value of i's kind (of Raw: of i's length).
func (i item) take(d *Dec) item {
	got := item{kind: i.kind}
	switch i.kind {
	case 0:
		got.number = uint64(d.Byte())
	case 1:
		if d.Flag() {
			got.number = 1
		}
	case 2:
		got.number = d.Var(topNumber)
	case 3:
		got.text = d.Text(math.MaxInt)
	case 4:
		got.texts = d.Texts(math.MaxInt, math.MaxInt)
	case 5:
		got.text = d.Raw(len(i.text))
	case 6:
		got.stamp = d.Stamp()
	}
	return got
}

func (i item) equal(j item) bool {
	return i.kind == j.kind && i.number == j.number && i.text == j.text && slices.Equal(i.texts, j.texts) && i.stamp == j.stamp
}

func randomText(r *rand.Rand) string {
	b := make([]byte, r.Intn(6)*r.Intn(60))
	r.Read(b)
	return string(b)
}

func randomItem(r *rand.Rand) item {
	i := item{kind: r.Intn(kinds)}
	switch i.kind {
	case 0:
		i.number = uint64(r.Intn(256))
	case 1:
		i.number = uint64(r.Intn(2))
	case 2:
		i.number = r.Uint64() >> r.Intn(64)
	case 3, 5:
		i.text = randomText(r)
	case 4:
		for range r.Intn(5) {
			i.texts = append(i.texts, randomText(r))
		}
	case 6:
		i.stamp = api.Stamp{Wall: r.Uint64(), Logical: r.Uint32(), Node: r.Uint32()}
	}
	return i
}

func TestWhatWasAddedIsTakenBack(t *testing.T) { // P3.7
	r := rand.New(rand.NewSource(37))
	for range 3000 {
		var items []item
		var e Enc
		for range r.Intn(12) {
			i := randomItem(r)
			items = append(items, i)
			i.add(&e)
		}
		d := Open(e.Bytes())
		for _, i := range items {
			if got := i.take(d); !got.equal(i) {
				t.Fatalf("%v was taken back as %v", i, got)
			}
		}
		wantEnd(t, d, api.OK)
		wantLeft(t, d, 0)
	}
}

// likelyBytes are bytes of which takes often come through.
func likelyBytes(r *rand.Rand) string {
	b := make([]byte, r.Intn(24))
	for i := range b {
		b[i] = "\x00\x01\x02\x03\x7f\x80\x81\xff"[r.Intn(8)]
	}
	return string(b)
}

func TestNothingElseIsTaken(t *testing.T) { // P3.7
	r := rand.New(rand.NewSource(73))
	through := 0
	for range 60000 {
		s := likelyBytes(r)
		d := Open(s)
		var e Enc
		for d.Left() > 0 {
			i := item{kind: r.Intn(kinds), text: "ab"}
			i.take(d).add(&e)
		}
		if d.End() != api.OK {
			continue
		}
		through++
		if got := e.Bytes(); got != s {
			t.Fatalf("what was taken of %x adds up to %x", s, got)
		}
	}
	if through < 1000 {
		t.Errorf("only %d texts came through", through)
	}
}

// model says over again what P3.3 to P3.6 ask of a decoder, with places in the text for what is left.
type model struct {
	s     string
	at    int
	errno api.Errno
}

func (m *model) fail(e api.Errno) {
	if m.errno == api.OK {
		m.errno, m.at = e, len(m.s)
	}
}

func (m *model) raw(n int) (string, bool) {
	if m.errno != api.OK {
		return "", false
	}
	if n < 0 {
		n = 0
	}
	if len(m.s)-m.at < n {
		m.fail(api.ErrShort)
		return "", false
	}
	m.at += n
	return m.s[m.at-n : m.at], true
}

func (m *model) number(max uint64) (uint64, bool) {
	var looked []byte
	for len(looked) == 0 || looked[len(looked)-1] >= 128 {
		b, ok := m.raw(1)
		if !ok {
			return 0, false
		}
		looked = append(looked, b[0])
		if len(looked) == 10 && b[0] > 1 {
			m.fail(api.ErrForm)
			return 0, false
		}
	}
	if len(looked) > 1 && looked[len(looked)-1] == 0 {
		m.fail(api.ErrForm)
		return 0, false
	}
	var n uint64
	for _, b := range slices.Backward(looked) {
		n = n*128 + uint64(b%128)
	}
	if n > max {
		m.fail(api.ErrForm)
		return 0, false
	}
	return n, true
}

func (m *model) text(max int) (string, bool) {
	n, ok := m.number(uint64(slices.Max([]int{max, 0})))
	if !ok {
		return "", false
	}
	if n > uint64(len(m.s)-m.at) {
		m.fail(api.ErrShort)
		return "", false
	}
	return m.raw(int(n))
}

func (m *model) texts(count, max int) []string {
	var list []string
	n, _ := m.number(uint64(slices.Max([]int{count, 0})))
	for range n {
		s, ok := m.text(max)
		if !ok {
			return nil
		}
		list = append(list, s)
	}
	return list
}

func (m *model) take(kind, max, count int) item {
	i := item{kind: kind}
	switch kind {
	case 0, 1:
		b, ok := m.raw(1)
		if ok && kind == 1 && b[0] > 1 {
			m.fail(api.ErrForm)
		} else if ok {
			i.number = uint64(b[0])
		}
	case 2:
		i.number, _ = m.number(uint64(max))
	case 3:
		i.text, _ = m.text(max)
	case 4:
		i.texts = m.texts(count, max)
	case 5:
		i.text, _ = m.raw(max)
	case 6:
		b, _ := m.raw(16)
		for _, c := range []byte(b) {
			i.stamp.Wall = i.stamp.Wall<<8 | uint64(i.stamp.Logical>>24)
			i.stamp.Logical = i.stamp.Logical<<8 | i.stamp.Node>>24
			i.stamp.Node = i.stamp.Node<<8 | uint32(c)
		}
	}
	return i
}

// limited takes a value of that kind with those limits.
func limited(d *Dec, kind, max, count int) item {
	i := item{kind: kind}
	switch kind {
	case 2:
		i.number = d.Var(uint64(max))
	case 3:
		i.text = d.Text(max)
	case 4:
		i.texts = d.Texts(count, max)
	case 5:
		i.text = d.Raw(max)
	default:
		return i.take(d)
	}
	return i
}

func randomLimit(r *rand.Rand) int {
	limits := []int{math.MinInt, -1, 0, 1, 2, 3, 127, 128, 300, 1 << 31, math.MaxInt}
	return limits[r.Intn(len(limits))]
}

func TestTakesAreAsTheModelSays(t *testing.T) { // P3.3 to P3.6, P3.12
	r := rand.New(rand.NewSource(12))
	for round := range 60000 {
		s := likelyBytes(r)
		if round%4 == 0 {
			s = randomText(r)
		}
		d, m := Open(s), &model{s: s}
		for range r.Intn(8) {
			kind, max, count := r.Intn(kinds), randomLimit(r), randomLimit(r)
			got, want := limited(d, kind, max, count), m.take(kind, max, count)
			if !got.equal(want) {
				t.Fatalf("%x: kind %d, max %d, count %d: %v, want %v", s, kind, max, count, got, want)
			}
			left := len(s) - m.at
			end := m.errno
			if end == api.OK && left > 0 {
				end = api.ErrForm
			}
			if d.Left() != left || d.End() != end {
				t.Fatalf("%x: kind %d, max %d, count %d: Left %d, End %d, want %d, %d", s, kind, max, count, d.Left(), d.End(), left, end)
			}
		}
	}
}
