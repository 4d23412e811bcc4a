package tuple

import (
	"math"
	"slices"
	"strconv"
	"strings"
	"testing"

	"tidemark/api"
)

// wantBoth holds bytes and a tuple to be those of one another.
func wantBoth(t *testing.T, b string, list ...api.Value) {
	t.Helper()
	if got, e := Encode(list); got != b || e != api.OK {
		t.Errorf("Encode(%v) = %x, %d, want %x", list, got, e, b)
	}
	if got, e := Decode(b); !slices.Equal(got, list) || e != api.OK {
		t.Errorf("Decode(%x) = %v, %d, want %v", b, got, e, list)
	}
}

func wantNoTuple(t *testing.T, list ...string) {
	t.Helper()
	for _, b := range list {
		if got, e := Decode(b); len(got) != 0 || e != api.ErrTuple {
			t.Errorf("Decode(%x) = %v, %d", b, got, e)
		}
	}
}

// P25.2, P25.3: the chapter's examples.
func TestCodesOfTheExamples(t *testing.T) {
	wantBoth(t, "")
	wantBoth(t, "\x01", null())
	wantBoth(t, "\x02", flag(false))
	wantBoth(t, "\x03", flag(true))
	wantBoth(t, "\x18", number(0))
	wantBoth(t, "\x19\x01", number(1))
	wantBoth(t, "\x19\xff", number(255))
	wantBoth(t, "\x1a\x01\x00", number(256))
	wantBoth(t, "\x20\x7f\xff\xff\xff\xff\xff\xff\xff", number(math.MaxInt64))
	wantBoth(t, "\x17\xfe", number(-1))
	wantBoth(t, "\x17\x00", number(-255))
	wantBoth(t, "\x16\xfe\xff", number(-256))
	wantBoth(t, "\x10\x7f\xff\xff\xff\xff\xff\xff\xff", number(math.MinInt64))
	wantBoth(t, "\x30\x00", word(""))
	wantBoth(t, "\x30a\x00", word("a"))
	wantBoth(t, "\x30a\x00\xffb\x00", word("a\x00b"))
	wantBoth(t, "\x30a\x00\x19\x05\x01", word("a"), number(5), null())
	wantBoth(t, "\x30\x00\x01", word(""), null())
	wantNoTuple(t, "\x19", "\x19\x00", "\x1a\x00\x05", "\x17\xff", "\x20\x80\x00\x00\x00\x00\x00\x00\x00", "\x10\x7f\xff\xff\xff\xff\xff\xff\xfe", "\x30\x61", "\x30\x00\xff", "\x00", "\xff", "\x04")
}

// P25.2, P25.3: at each number of bytes, the integers at which it begins and ends.
func TestIntegersOfEachSize(t *testing.T) {
	for n := 1; n <= 7; n++ {
		up, down := string([]byte{byte(0x18 + n)}), string([]byte{byte(0x18 - n)})
		low, top := "\x01"+strings.Repeat("\x00", n-1), strings.Repeat("\xff", n)
		wantBoth(t, up+low, number(1<<(8*(n-1))))
		wantBoth(t, up+top, number(1<<(8*n)-1))
		wantBoth(t, down+"\xfe"+top[1:], number(-1<<(8*(n-1))))
		wantBoth(t, down+strings.Repeat("\x00", n), number(-(1<<(8*n) - 1)))
		wantNoTuple(t, up+"\x00"+top[1:], down+"\xff"+strings.Repeat("\x00", n-1)) // a byte less holds them
	}
	wantBoth(t, "\x20\x01\x00\x00\x00\x00\x00\x00\x00", number(1<<56))
	wantBoth(t, "\x10\xfe\xff\xff\xff\xff\xff\xff\xff", number(-1<<56))
	wantBoth(t, "\x10\x80\x00\x00\x00\x00\x00\x00\x00", number(-math.MaxInt64))
	wantBoth(t, "\x20\x12\x34\x56\x78\x9a\xbc\xde\xf0", number(0x123456789abcdef0))
	wantBoth(t, "\x10\xed\xcb\xa9\x87\x65\x43\x21\x0f", number(-0x123456789abcdef0))
	wantNoTuple(t, "\x20\x80\x00\x00\x00\x00\x00\x00\x01", "\x20\xff\xff\xff\xff\xff\xff\xff\xff", "\x20\x00\xff\xff\xff\xff\xff\xff\xff", "\x20\x00\x00\x00\x00\x00\x00\x00\x00",
		"\x10\x7f\xff\xff\xff\xff\xff\xff\xfd", "\x10\x00\x00\x00\x00\x00\x00\x00\x00", "\x10\xff\xff\xff\xff\xff\xff\xff\xff", "\x10\xff\x00\x00\x00\x00\x00\x00\x00")
}

// P25.3: a byte begins a code just if the table has it, at the front and behind another code.
func TestFirstBytes(t *testing.T) {
	behind := map[byte]string{1: "", 2: "", 3: "", 0x30: "ab\x00"}
	for n := range 9 {
		behind[byte(0x18+n)] = strings.Repeat("\x42", n)
		behind[byte(0x18-n)] = strings.Repeat("\xc2", n)
	}
	for lead := range 256 {
		b := string([]byte{byte(lead)})
		rest, begins := behind[byte(lead)]
		if !begins {
			for size := range 12 {
				wantNoTuple(t, b+strings.Repeat("\x00", size), b+strings.Repeat("\x42", size), "\x01"+b+strings.Repeat("\x01", size), "\x30\x00"+b)
			}
			continue
		}
		if list, e := Decode(b + rest); len(list) != 1 || e != api.OK {
			t.Errorf("Decode(%x) = %v, %d", b+rest, list, e)
		}
		if list, e := Decode("\x30a\x00" + b + rest + "\x01"); len(list) != 3 || e != api.OK {
			t.Errorf("Decode of %x between two others = %v, %d", b+rest, list, e)
		}
		for size := range len(rest) {
			wantNoTuple(t, b+rest[:size], "\x01"+b+rest[:size])
		}
	}
}

// P25.3: where a text ends.
func TestEndsOfTexts(t *testing.T) {
	wantBoth(t, "\x30\x00\xff\x00", word("\x00"))
	wantBoth(t, "\x30\x00\xff\x00\xff\x00", word("\x00\x00"))
	wantBoth(t, "\x30\xff\x00", word("\xff"))
	wantBoth(t, "\x30\xff\x00\xff\x00", word("\xff\x00"))
	wantBoth(t, "\x30\x00\xff\xff\x00", word("\x00\xff"))
	wantBoth(t, "\x30\x00\xff\xff\xff\x00\xff\x00", word("\x00\xff\xff\x00"))
	wantBoth(t, "\x30\x01\x18\x30\x00", word("\x01\x18\x30"))
	wantBoth(t, "\x30\x00\x30\x00", word(""), word(""))
	wantBoth(t, "\x30a\x00\x30b\x00", word("a"), word("b"))
	wantBoth(t, "\x30a\x00\x18", word("a"), number(0))
	wantNoTuple(t, "\x30", "\x30\x00\x00", "\x30\x00\xff\xff", "\x30\x00\xff\x00\xff", "\x30a\x00\xff", "\x30a\x00\xffb", "\x30a\x00\x00", "\x30a\x00b", "\x30a\x00\xffb\x00\x00", "\x01\x30", "\x30\x00\x30")
	long := strings.Repeat("\x00x\xff", 100000)
	b, e := Encode(row(word(long), null()))
	if e != api.OK || b != "\x30"+strings.ReplaceAll(long, "\x00", "\x00\xff")+"\x00\x01" {
		t.Errorf("a long text has other bytes, %d", e)
	}
	if list, e := Decode(b); e != api.OK || !slices.Equal(list, row(word(long), null())) {
		t.Errorf("a long text is another one, %d", e)
	}
	if list, e := Decode(b[:len(b)-2]); e != api.ErrTuple || len(list) != 0 {
		t.Errorf("a long text without its end is taken, %d", e)
	}
}

// P25.3, P25.4: of all bytes of at most three, just those are taken that are some tuple's, each for its own.
func TestAllShortBytes(t *testing.T) {
	// How many values have a code of one, two, three bytes: 511 are the empty text and the integers of one byte.
	codes := [4]int{0, 4, 1 + 2*255, 255 + 2*(65536-256)}
	tuples := [4]int{1}
	for n := 1; n <= 3; n++ {
		for size := 1; size <= n; size++ {
			tuples[n] += codes[size] * tuples[n-size]
		}
	}
	for size := range len(tuples) {
		taken := 0
		for n := range 1 << (8 * size) {
			b := string([]byte{byte(n >> 16), byte(n >> 8), byte(n)}[3-size:])
			list, e := Decode(b)
			if e != api.OK {
				if len(list) != 0 || e != api.ErrTuple {
					t.Fatalf("Decode(%x) = %v, %d", b, list, e)
				}
				continue
			}
			taken++
			if back, e := Encode(list); back != b || e != api.OK {
				t.Fatalf("Decode(%x) = %v, whose bytes are %x", b, list, back)
			}
		}
		if taken != tuples[size] {
			t.Errorf("of %d bytes, %d are taken for a tuple, and %d tuples have so many", size, taken, tuples[size])
		}
	}
}

// P25.2, P25.3, P25.4: drawn tuples, beside the model, and one behind the other.
func TestDrawnCodes(t *testing.T) {
	seen := map[string]int{}
	for seed := range int64(30000) {
		d := newDice(seed)
		list := d.anyTuple()
		want, wantE := modelEncode(list)
		b, e := Encode(list)
		if b != want || e != wantE {
			t.Fatalf("seed %d: Encode(%v) = %x, %d, want %x, %d", seed, list, b, e, want, wantE)
		}
		seen["status "+strconv.Itoa(int(e))]++
		if e != api.OK {
			continue
		}
		if got, e := Decode(b); !slices.Equal(got, list) || e != api.OK {
			t.Fatalf("seed %d: Decode(%x) = %v, %d, want %v", seed, b, got, e, list)
		}
		more := d.tuple()
		behind, _ := Encode(more)
		if both, e := Encode(slices.Concat(list, more)); both != b+behind || e != api.OK {
			t.Fatalf("seed %d: the bytes of %v and %v in one are %x", seed, list, more, both)
		}
		if got, e := Decode(b + behind); !slices.Equal(got, slices.Concat(list, more)) || e != api.OK {
			t.Fatalf("seed %d: of %v and %v behind one another there comes %v", seed, list, more, got)
		}
	}
	wantSeen(t, seen, "status 0", "status "+strconv.Itoa(int(api.ErrArg)))
}

func wantDecodedAsByModel(t *testing.T, b string) api.Errno {
	t.Helper()
	want, wantE := modelDecode(b)
	got, e := Decode(b)
	if !slices.Equal(got, want) || e != wantE {
		t.Fatalf("Decode(%x) = %v, %d, want %v, %d", b, got, e, want, wantE)
	}
	if e != api.OK {
		return e
	}
	if back, f := Encode(got); back != b || f != api.OK {
		t.Fatalf("Decode(%x) = %v, whose bytes are %x", b, got, back)
	}
	return e
}

// P25.3, P25.4: drawn bytes, like those of a tuple, beside the model.
func TestDrawnBytes(t *testing.T) {
	seen := map[string]int{}
	for seed := range int64(60000) {
		d := newDice(seed)
		b, _ := Encode(d.tuple())
		for range 1 + d.Intn(2) {
			b = d.spoiltBytes(b)
		}
		if wantDecodedAsByModel(t, b) == api.OK {
			seen["a tuple"]++
		} else {
			seen["no tuple"]++
		}
	}
	wantSeen(t, seen, "a tuple", "no tuple")
}

// P25.3, P25.4: any bytes.
func FuzzDecode(f *testing.F) {
	for seed := range int64(20) {
		b, _ := Encode(newDice(seed).tuple())
		f.Add(b)
	}
	f.Fuzz(func(t *testing.T, b string) { wantDecodedAsByModel(t, b) })
}
