package token

import (
	"encoding/hex"
	"hash/crc32"
	"math/rand"
	"strings"
	"testing"

	"tidemark/api"
	"tidemark/stamp"
)

const (
	zeroToken     = "00000000000000000000000000000000ecbb4b55" // of {0, 0, 0}
	smallToken    = "0000000000000001000000020000000318095dcc" // of {1, 2, 3}
	greatestToken = "ffffffffffffffffffffffffffffffff3fb3c61a" // of the greatest stamp

	topNode = 1<<32 - 1
)

func at(wall uint64, logical, node uint32) api.Stamp {
	return api.Stamp{Wall: wall, Logical: logical, Node: node}
}

func randomStamp(r *rand.Rand) api.Stamp { return at(r.Uint64(), r.Uint32(), r.Uint32()) }

// someStamps: the edges of every field, each of its bytes told apart, and random ones.
func someStamps() []api.Stamp {
	list := []api.Stamp{
		at(0, 0, 0), at(1, 2, 3), at(1, 2, 2), at(0, 0, 1), at(0, 1, 0), at(1, 0, 0),
		at(0x0123456789abcdef, 0xfedcba98, 0x76543210),
		at(api.TopWall, 0, 0), at(api.TopWall-1, api.TopLogical, topNode), at(api.TopWall, api.TopLogical, topNode),
		at(0, api.TopLogical, 0), at(0, 0, topNode), at(1<<63, 1<<31, 1<<31),
	}
	r := rand.New(rand.NewSource(4))
	for range 50 {
		list = append(list, randomStamp(r))
	}
	return list
}

// plainToken puts a token together with the library's means.
func plainToken(s api.Stamp) string {
	packed := []byte(stamp.Pack(s))
	n := crc32.ChecksumIEEE(packed)
	return hex.EncodeToString(append(packed, byte(n>>24), byte(n>>16), byte(n>>8), byte(n)))
}

// plainStamp reads a text with the library's means.
func plainStamp(text string) (api.Stamp, bool) {
	if len(text) != 40 || strings.Trim(text, "0123456789abcdef") != "" {
		return api.Stamp{}, false
	}
	b, err := hex.DecodeString(text)
	if err != nil {
		return api.Stamp{}, false
	}
	s, e := stamp.Unpack(string(b[:16]))
	return s, e == api.OK && plainToken(s) == text
}

func wantNoToken(t *testing.T, text string) {
	t.Helper()
	if s, e := Decode(text); s != (api.Stamp{}) || e != api.ErrToken {
		t.Errorf("Decode(%.80q) = %v, %d, want the zero stamp and ErrToken", text, s, e)
	}
}

// P4.1
func TestEncodeExamples(t *testing.T) {
	for _, c := range []struct {
		s    api.Stamp
		want string
	}{
		{at(0, 0, 0), zeroToken},
		{at(1, 2, 3), smallToken},
		{at(18446744073709551615, 4294967295, 4294967295), greatestToken},
	} {
		if got := Encode(c.s); got != c.want {
			t.Errorf("Encode(%v) = %q, want %q", c.s, got, c.want)
		}
	}
}

// P4.1
func TestEncodeSpellsThePackedBytesAndTheirSum(t *testing.T) {
	for _, s := range someStamps() {
		if got, want := Encode(s), plainToken(s); got != want {
			t.Errorf("Encode(%v) = %q, want %q", s, got, want)
		}
	}
}

// stampWithSum finds the first wall number whose stamp has a sum of that kind.
func stampWithSum(fits func(sum uint32) bool) api.Stamp {
	for wall := uint64(0); ; wall++ {
		s := at(wall, 0, 0)
		if fits(crc32.ChecksumIEEE([]byte(stamp.Pack(s)))) {
			return s
		}
	}
}

// P4.1, P4.2
func TestSmallSumHasZerosInFront(t *testing.T) {
	for _, c := range []struct {
		bound uint32
		zeros string
	}{{1 << 28, "0"}, {1 << 24, "00"}, {1 << 20, "000"}, {1 << 16, "0000"}} {
		s := stampWithSum(func(sum uint32) bool { return sum < c.bound })
		text := Encode(s)
		if text != plainToken(s) || len(text) != 40 || !strings.HasPrefix(text[32:], c.zeros) {
			t.Errorf("Encode(%v) = %q, want %q", s, text, plainToken(s))
		}
		if got, e := Decode(text); got != s || e != api.OK {
			t.Errorf("Decode(%q) = %v, %d, want %v", text, got, e, s)
		}
	}
}

// P4.2
func TestDecodeUndoesEncode(t *testing.T) {
	for _, s := range someStamps() {
		if got, e := Decode(Encode(s)); got != s || e != api.OK {
			t.Errorf("Decode(Encode(%v)) = %v, %d", s, got, e)
		}
	}
}

// P4.2
func TestDecodeExamples(t *testing.T) {
	for text, want := range map[string]api.Stamp{
		zeroToken:     at(0, 0, 0),
		smallToken:    at(1, 2, 3),
		greatestToken: at(api.TopWall, api.TopLogical, topNode),
	} {
		if got, e := Decode(text); got != want || e != api.OK {
			t.Errorf("Decode(%q) = %v, %d, want %v", text, got, e, want)
		}
	}
	for _, text := range []string{
		"",
		zeroToken[:39] + "4",
		zeroToken[:39],
		zeroToken[1:],
		zeroToken[:20] + zeroToken[21:],
		strings.Replace(zeroToken, "e", "E", 1),
		zeroToken + " ",
		zeroToken[:39] + " ",
	} {
		wantNoToken(t, text)
	}
}

// P4.2
func TestOtherLengthsAreNoTokens(t *testing.T) {
	long := smallToken + smallToken + smallToken
	for n := range len(long) + 1 {
		if n != 40 {
			wantNoToken(t, long[:n])
			wantNoToken(t, strings.Repeat("0", n))
		}
	}
	for _, text := range []string{"0" + smallToken, smallToken + "0", "0x" + smallToken, smallToken + "\n", smallToken + "\x00", smallToken + "\u00e9", strings.Repeat("0", 1<<20)} {
		wantNoToken(t, text)
	}
}

// P4.2: what is left out are zeros, which the rest must not be taken to have.
func TestShortTextIsNotFilledUp(t *testing.T) {
	text := Encode(stampWithSum(func(sum uint32) bool { return sum<<16 == 0 }))
	for n := 36; n < 40; n++ {
		wantNoToken(t, text[:n])
	}
	text = Encode(stampWithSum(func(sum uint32) bool { return sum<<24>>28 == 0 }))
	wantNoToken(t, text[:38]+text[39:])
	wantNoToken(t, zeroToken[1:])
	wantNoToken(t, zeroToken[2:])
	wantNoToken(t, zeroToken[32:])
}

// P4.2: each digit has one form alone, so a stamp has one token alone.
func TestCapitalLettersAreNoDigits(t *testing.T) {
	for _, text := range []string{zeroToken, smallToken, greatestToken} {
		wantNoToken(t, strings.ToUpper(text))
		for i := range len(text) {
			if text[i] >= 'a' {
				wantNoToken(t, text[:i]+strings.ToUpper(text[i:i+1])+text[i+1:])
			}
		}
	}
}

// P4.2: in the place of two zeros stands one letter of two bytes, of three zeros one of three, and so on: 40 bytes, of which those letters would be zeros if only their lowest bits were looked at, or if they were left out.
func TestLettersOfSeveralBytesAreNoDigits(t *testing.T) {
	for _, letter := range []string{"\u0130", "\u0660", "\u00b0", "\u3030", "\uff10", "\ufffd", "\U00010030", "\U0001d7ce"} {
		for i := 0; i+len(letter) <= 32; i++ {
			wantNoToken(t, zeroToken[:i]+letter+zeroToken[i+len(letter):])
		}
	}
	wantNoToken(t, strings.Repeat("\u0130", 20))
	wantNoToken(t, strings.Repeat("\U00010030", 10))
	wantNoToken(t, strings.Repeat("\u0130", 40))
	wantNoToken(t, strings.Repeat("\u0130", 8)+zeroToken[8:])
}

// P4.2
func TestBytesThatBeginNoLetterAreNoDigits(t *testing.T) {
	wantNoToken(t, strings.Repeat("\xff", 40))
	wantNoToken(t, strings.Repeat("\x80", 40))
	wantNoToken(t, "\xc4"+zeroToken[1:])
	wantNoToken(t, zeroToken[:39]+"\xc4")
	wantNoToken(t, zeroToken[:38]+"\xed\xa0")
}

// P4.2
func TestSumMustBeTheStamps(t *testing.T) {
	list := someStamps()
	for i, s := range list {
		text := Encode(s)
		other := Encode(list[(i+1)%len(list)])
		wantNoToken(t, text[:32]+other[32:])
		wantNoToken(t, other[:32]+text[32:])
		wantNoToken(t, text[32:]+text[:32])
		wantNoToken(t, text[:32]+text[38:]+text[36:38]+text[34:36]+text[32:34])
		wantNoToken(t, text[:32]+"00000000")
	}
	wantNoToken(t, strings.Repeat("0", 40))
	wantNoToken(t, strings.Repeat("f", 40))
	wantNoToken(t, strings.Repeat("0", 32)+"1344b4aa") // the right sum with every bit turned round
}

// P4.2: what is taken as a token is the one token of what it stands for.
func TestDecodeTakesJustTheTokens(t *testing.T) {
	r := rand.New(rand.NewSource(42))
	const letters = "0123456789abcdef0123456789abcdef0123456789abcdef0123456789abcdefABCDEFg/:`@ -+x"
	for range 20000 {
		b := []byte(Encode(randomStamp(r)))
		for range r.Intn(3) {
			b[r.Intn(len(b))] = letters[r.Intn(len(letters))]
		}
		want, ok := plainStamp(string(b))
		if !ok {
			wantNoToken(t, string(b))
		} else if got, e := Decode(string(b)); got != want || e != api.OK {
			t.Fatalf("Decode(%q) = %v, %d, want %v", b, got, e, want)
		}
	}
}

// P4.2: the highest wall number is no fault of a token.
func TestTopWallHasATokenLikeAnyOther(t *testing.T) {
	for _, s := range []api.Stamp{at(api.TopWall, 0, 0), at(api.TopWall, 7, 9), at(api.TopWall, api.TopLogical, topNode)} {
		text := Encode(s)
		if got, e := Decode(text); text != plainToken(s) || got != s || e != api.OK {
			t.Errorf("Decode(%q) = %v, %d, want %v", text, got, e, s)
		}
		if got, e := Join(text, smallToken); got != text || e != api.OK {
			t.Errorf("Join(%q, %q) = %q, %d", text, smallToken, got, e)
		}
	}
}

// P4.3: every other byte at every place.
func TestOneChangedByteIsNoToken(t *testing.T) {
	for _, s := range someStamps() {
		text := []byte(Encode(s))
		for i, kept := range text {
			for other := range 256 {
				if byte(other) != kept {
					text[i] = byte(other)
					wantNoToken(t, string(text))
				}
			}
			text[i] = kept
		}
	}
}

// P4.4
func TestJoinExamples(t *testing.T) {
	less := Encode(at(1, 2, 2))
	for _, c := range []struct {
		a, b, want string
		e          api.Errno
	}{
		{smallToken, less, smallToken, api.OK},
		{less, smallToken, smallToken, api.OK},
		{smallToken, "", smallToken, api.OK},
		{"", smallToken, smallToken, api.OK},
		{"", "", "", api.OK},
		{"", "x", "", api.ErrToken},
		{"x", smallToken, "", api.ErrToken},
	} {
		if got, e := Join(c.a, c.b); got != c.want || e != c.e {
			t.Errorf("Join(%q, %q) = %q, %d, want %q, %d", c.a, c.b, got, e, c.want, c.e)
		}
	}
}

// P4.4
func TestJoinTakesTheGreaterStamp(t *testing.T) {
	list := someStamps()
	for _, a := range list {
		for _, b := range list {
			want := Encode(stamp.Max(a, b))
			if got, e := Join(Encode(a), Encode(b)); got != want || e != api.OK {
				t.Errorf("Join of the tokens of %v and %v = %q, %d, want %q", a, b, got, e, want)
			}
		}
	}
}

// P4.4: the least stamp's too.
func TestJoinTakesTheOnlyToken(t *testing.T) {
	for _, s := range someStamps() {
		text := Encode(s)
		if got, e := Join("", text); got != text || e != api.OK {
			t.Errorf("Join(\"\", %q) = %q, %d", text, got, e)
		}
		if got, e := Join(text, ""); got != text || e != api.OK {
			t.Errorf("Join(%q, \"\") = %q, %d", text, got, e)
		}
	}
}

// P4.4: wherever the wrong one stands, and whatever stands beside it.
func TestJoinRefusesWhatIsNoToken(t *testing.T) {
	wrong := []string{
		"x", " ", "\x00", "0", zeroToken[:39], zeroToken + "0", zeroToken[:39] + "4",
		strings.ToUpper(greatestToken), strings.Repeat("0", 40), strings.Repeat("f", 40), strings.Repeat("\u0130", 20), strings.Repeat("\xff", 40),
	}
	beside := append([]string{"", zeroToken, smallToken, greatestToken}, wrong...)
	for _, w := range wrong {
		for _, b := range beside {
			if got, e := Join(w, b); got != "" || e != api.ErrToken {
				t.Errorf("Join(%q, %q) = %q, %d, want \"\" and ErrToken", w, b, got, e)
			}
			if got, e := Join(b, w); got != "" || e != api.ErrToken {
				t.Errorf("Join(%q, %q) = %q, %d, want \"\" and ErrToken", b, w, got, e)
			}
		}
	}
}
