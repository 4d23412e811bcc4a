package wire

import (
	"encoding/binary"
	"math/rand"
	"slices"
	"strings"
	"testing"

	"tidemark/api"
)

// someStamp packs to 16 bytes that are all different.
var someStamp = api.Stamp{Wall: 0x0102030405060708, Logical: 0x090a0b0c, Node: 0x0d0e0f10}

const someStampBytes = "\x01\x02\x03\x04\x05\x06\x07\x08\x09\x0a\x0b\x0c\x0d\x0e\x0f\x10"

func wantBytes(t *testing.T, e *Enc, want string) {
	t.Helper()
	if got := e.Bytes(); got != want {
		t.Errorf("Bytes = %x, want %x", got, want)
	}
}

func TestAnEncAsGoMakesItHoldsNothing(t *testing.T) { // P3.1
	var e Enc
	wantBytes(t, &e, "")
	wantBytes(t, &e, "")
	e.Byte('a')
	wantBytes(t, &e, "a")
	wantBytes(t, new(Enc), "")
	wantBytes(t, &Enc{}, "")
}

func TestEachCallAddsAtTheEnd(t *testing.T) { // P3.1
	var e Enc
	want := ""
	for _, c := range []struct {
		add   func()
		bytes string
	}{
		{func() { e.Byte(7) }, "\x07"},
		{func() { e.Flag(true) }, "\x01"},
		{func() { e.Var(300) }, "\xac\x02"},
		{func() { e.Text("ab") }, "\x02ab"},
		{func() { e.Texts("x", "yz") }, "\x02\x01x\x02yz"},
		{func() { e.Raw("raw") }, "raw"},
		{func() { e.Stamp(someStamp) }, someStampBytes},
		{func() { e.Raw("") }, ""},
		{func() { e.Byte(7) }, "\x07"},
	} {
		c.add()
		want += c.bytes
		wantBytes(t, &e, want)
		wantBytes(t, &e, want) // telling takes none away
	}
}

func TestWhatBytesToldStaysAsItWas(t *testing.T) { // P3.1
	var e Enc
	var told []string
	for i := range 300 {
		e.Byte(byte(i))
		told = append(told, e.Bytes())
	}
	for i, s := range told {
		if len(s) != i+1 || s[i] != byte(i) || s[0] != 0 {
			t.Errorf("the %dth answer is now %x", i, s)
		}
	}
}

func TestTwoEncsAreApart(t *testing.T) { // P3.1
	var a, b Enc
	a.Text("one")
	b.Text("two")
	a.Byte('A')
	b.Byte('B')
	wantBytes(t, &a, "\x03oneA")
	wantBytes(t, &b, "\x03twoB")
}

func TestAnEncAndItsCopiesAreApart(t *testing.T) { // P3.1
	for n := range 40 { // some length leaves room behind the bytes, whatever they are kept in
		var a Enc
		for range n {
			a.Byte('.')
		}
		b := a
		a.Byte('A')
		c := a
		a = b
		a.Byte('D')
		b.Byte('B')
		c.Byte('C')
		dots := strings.Repeat(".", n)
		wantBytes(t, &a, dots+"D")
		wantBytes(t, &b, dots+"B")
		wantBytes(t, &c, dots+"AC")
	}
}

func TestByteAddsThatByte(t *testing.T) { // P3.2
	for v := range 256 {
		var e Enc
		e.Byte(byte(v))
		wantBytes(t, &e, string([]byte{byte(v)}))
	}
}

func TestFlagAddsOneOrZero(t *testing.T) { // P3.2
	var e Enc
	e.Flag(true)
	wantBytes(t, &e, "\x01")
	e.Flag(false)
	wantBytes(t, &e, "\x01\x00")
}

func TestVarTakesAsFewBytesAsItCan(t *testing.T) { // P3.2
	for _, c := range []struct {
		v    uint64
		want string
	}{
		{0, "\x00"}, {1, "\x01"}, {127, "\x7f"}, {128, "\x80\x01"}, {255, "\xff\x01"}, {256, "\x80\x02"}, {300, "\xac\x02"},
		{16383, "\xff\x7f"}, {16384, "\x80\x80\x01"},
		{1<<32 - 1, "\xff\xff\xff\xff\x0f"}, {1 << 32, "\x80\x80\x80\x80\x10"},
		{1<<63 - 1, "\xff\xff\xff\xff\xff\xff\xff\xff\x7f"}, {1 << 63, "\x80\x80\x80\x80\x80\x80\x80\x80\x80\x01"},
		{1<<64 - 1, "\xff\xff\xff\xff\xff\xff\xff\xff\xff\x01"},
	} {
		var e Enc
		e.Var(c.v)
		wantBytes(t, &e, c.want)
	}
}

func TestVarOfManyNumbers(t *testing.T) { // P3.2
	r := rand.New(rand.NewSource(1))
	for range 5000 {
		v := r.Uint64() >> r.Intn(64)
		var e Enc
		e.Var(v)
		wantBytes(t, &e, string(binary.AppendUvarint(nil, v)))
	}
}

func TestTextAddsItsLengthAndItsBytes(t *testing.T) { // P3.2
	for _, c := range []struct{ s, length string }{
		{"", "\x00"}, {"ab", "\x02"}, {"\x00", "\x01"}, {"\xff\xfe", "\x02"}, {"é", "\x02"},
		{strings.Repeat("q", 127), "\x7f"}, {strings.Repeat("q", 128), "\x80\x01"}, {strings.Repeat("q", 16384), "\x80\x80\x01"},
	} {
		var e Enc
		e.Text(c.s)
		wantBytes(t, &e, c.length+c.s)
	}
}

func TestTextsAddsTheirNumberAndEachOne(t *testing.T) { // P3.2
	var e Enc
	e.Texts("x", "", "yz")
	wantBytes(t, &e, "\x03\x01x\x00\x02yz")
	var none Enc
	none.Texts()
	wantBytes(t, &none, "\x00")
	none.Texts(nil...)
	wantBytes(t, &none, "\x00\x00")
	var one Enc
	one.Texts("")
	wantBytes(t, &one, "\x01\x00")
	var many Enc
	many.Texts(slices.Repeat([]string{"a"}, 200)...)
	wantBytes(t, &many, "\xc8\x01"+strings.Repeat("\x01a", 200))
}

func TestTextsKeepsAndChangesNothingOfTheList(t *testing.T) { // P3.2
	list := []string{"b", "a", "spare"}
	var e Enc
	e.Texts(list[:2]...)
	if !slices.Equal(list, []string{"b", "a", "spare"}) {
		t.Errorf("the list is now %q", list)
	}
	list[0] = "changed"
	wantBytes(t, &e, "\x02\x01b\x01a")
}

func TestRawAddsTheBytesAsTheyAre(t *testing.T) { // P3.2
	for _, s := range []string{"", "\x00", "abc", "\xff\x80", strings.Repeat("long", 1000)} {
		var e Enc
		e.Raw(s)
		wantBytes(t, &e, s)
	}
}

func TestStampAddsItsSixteenBytes(t *testing.T) { // P3.2
	for _, c := range []struct {
		s    api.Stamp
		want string
	}{
		{api.Stamp{}, strings.Repeat("\x00", 16)},
		{api.Stamp{Wall: 1, Logical: 2, Node: 259}, "\x00\x00\x00\x00\x00\x00\x00\x01\x00\x00\x00\x02\x00\x00\x01\x03"},
		{someStamp, someStampBytes},
		{api.Stamp{Wall: 1<<64 - 1, Logical: 1<<32 - 1, Node: 1<<32 - 1}, strings.Repeat("\xff", 16)},
	} {
		var e Enc
		e.Stamp(c.s)
		wantBytes(t, &e, c.want)
	}
}
