package wire

import (
	"encoding/binary"
	"hash/crc32"
	"math/rand"
	"strings"
	"testing"

	"tidemark/api"
)

func wantUnframed(t *testing.T, s, payload, rest string, want api.Errno) {
	t.Helper()
	p, r, e := Unframe(s)
	if p != payload || r != rest || e != want {
		t.Errorf("Unframe of %d bytes = %.20q (%d bytes), %.20q (%d bytes), %d, want %.20q, %.20q, %d", len(s), p, len(p), r, len(r), e, payload, rest, want)
	}
}

func mustFrame(t *testing.T, payload string) string {
	t.Helper()
	f, e := Frame(payload)
	if e != api.OK {
		t.Fatalf("Frame of %d bytes = %d", len(payload), e)
	}
	return f
}

// turned turns bits of s: from a bit on, as pattern's ones say, the bits counted from the lowest of each byte up.
func turned(s string, from int, pattern uint32) string {
	b := []byte(s)
	for i := range 32 {
		if pattern>>i&1 == 1 {
			b[(from+i)/8] ^= 1 << ((from + i) % 8)
		}
	}
	return string(b)
}

func TestCrcIsAsEverybodyHasIt(t *testing.T) { // P3.8
	for _, c := range []struct {
		s    string
		want uint32
	}{
		{"", 0}, {"123456789", 0xcbf43926}, {"a", 0xe8b7be43}, {"\x00", 0xd202ef8d}, {"\x00\x00\x00\x00", 0x2144df1c}, {"\xff\xff\xff\xff", 0xffffffff},
		{"The quick brown fox jumps over the lazy dog", 0x414fa339},
	} {
		if got := Crc(c.s); got != c.want {
			t.Errorf("Crc(%q) = %x, want %x", c.s, got, c.want)
		}
	}
	for v := range 256 {
		s := string([]byte{byte(v)})
		if got, want := Crc(s), crc32.ChecksumIEEE([]byte(s)); got != want {
			t.Errorf("Crc(%q) = %x, want %x", s, got, want)
		}
	}
	r := rand.New(rand.NewSource(8))
	for range 2000 {
		s := randomText(r)
		if got, want := Crc(s), crc32.ChecksumIEEE([]byte(s)); got != want {
			t.Errorf("Crc(%x) = %x, want %x", s, got, want)
		}
	}
}

func TestFrameIsLengthChecksumAndPayload(t *testing.T) { // P3.9
	if f := mustFrame(t, ""); f != "\x00\x00\x00\x00\x21\x44\xdf\x1c" {
		t.Errorf("Frame of nothing = %x", f)
	}
	for _, n := range []int{1, 2, 255, 256, 257, 65535, 65536, 70001, api.MaxFrame - 1, api.MaxFrame} {
		payload := strings.Repeat("\xa5", n)
		length := binary.BigEndian.AppendUint32(nil, uint32(n))
		sum := crc32.Update(crc32.ChecksumIEEE(length), crc32.IEEETable, []byte(payload))
		want := string(length) + string(binary.BigEndian.AppendUint32(nil, sum)) + payload
		if f := mustFrame(t, payload); f != want {
			t.Errorf("Frame of %d bytes = %.40x (%d bytes), want %.40x (%d bytes)", n, f, len(f), want, len(want))
		}
	}
}

func TestFrameRefusesWhatIsTooLong(t *testing.T) { // P3.9
	for _, n := range []int{api.MaxFrame + 1, 2 * api.MaxFrame, 1 << 24} {
		if f, e := Frame(strings.Repeat("k", n)); f != "" || e != api.ErrArg {
			t.Errorf("Frame of %d bytes = %d bytes, %d, want none, ErrArg", n, len(f), e)
		}
	}
}

func TestUnframeRefusesInItsOrder(t *testing.T) { // P3.10
	eight := "\x00\x10\x00\x01\x00\x00\x00\x00" // a length of MaxFrame + 1
	for n := range 8 {
		wantUnframed(t, eight[:n], "", "", api.ErrShort) // too few bytes, whatever length they tell
	}
	long := strings.Repeat("k", api.MaxFrame+1)
	wantUnframed(t, eight, "", "", api.ErrFrame)
	wantUnframed(t, eight+"abc", "", "", api.ErrFrame)
	wantUnframed(t, eight+long, "", "", api.ErrFrame)
	sum := crc32.Update(crc32.ChecksumIEEE([]byte(eight[:4])), crc32.IEEETable, []byte(long))
	wantUnframed(t, eight[:4]+string(binary.BigEndian.AppendUint32(nil, sum))+long, "", "", api.ErrFrame) // its Crc is right
	wantUnframed(t, "\xff\xff\xff\xff\x00\x00\x00\x00abc", "", "", api.ErrFrame)
	wantUnframed(t, "\x80\x00\x00\x00\x00\x00\x00\x00abc", "", "", api.ErrFrame)

	wantUnframed(t, "\x00\x10\x00\x00\x00\x00\x00\x00", "", "", api.ErrShort) // MaxFrame itself may be
	wantUnframed(t, "\x00\x00\x00\x03\x00\x00\x00\x00ab", "", "", api.ErrShort)
	wantUnframed(t, "\x00\x00\x00\x03\x00\x00\x00\x00abc", "", "", api.ErrFrame)
	wantUnframed(t, "\x00\x00\x00\x00\x00\x00\x00\x00", "", "", api.ErrFrame)
	wantUnframed(t, "\x00\x00\x00\x00\x21\x44\xdf\x1c", "", "", api.OK)
	wantUnframed(t, "\x00\x00\x00\x00\x1c\xdf\x44\x21", "", "", api.ErrFrame)
}

func TestUnframeTakesOffWhatFrameLaidOn(t *testing.T) { // P3.10, P3.11
	r := rand.New(rand.NewSource(11))
	for range 500 {
		p, rest := randomText(r), randomText(r)
		wantUnframed(t, mustFrame(t, p)+rest, p, rest, api.OK)
	}
	f := mustFrame(t, "ab")
	wantUnframed(t, f, "ab", "", api.OK)
	wantUnframed(t, f+f, "ab", f, api.OK)
	wantUnframed(t, mustFrame(t, "")+f, "", f, api.OK)
	wantUnframed(t, mustFrame(t, f), f, "", api.OK)
	big := strings.Repeat("k", api.MaxFrame)
	wantUnframed(t, mustFrame(t, big)+"rest", big, "rest", api.OK)
}

func TestAFrameCutShortIsShort(t *testing.T) { // P3.11
	r := rand.New(rand.NewSource(5))
	for range 30 {
		f := mustFrame(t, randomText(r))
		for n := range len(f) {
			wantUnframed(t, f[:n], "", "", api.ErrShort)
		}
	}
	big := mustFrame(t, strings.Repeat("k", api.MaxFrame))
	wantUnframed(t, big[:len(big)-1], "", "", api.ErrShort)
}

func TestTurnedBitsOfThePayloadAreSeen(t *testing.T) { // P3.11
	r := rand.New(rand.NewSource(32))
	patterns := []uint32{1, 3, 0x80000001, 0xffffffff, 0xaaaaaaab, 0xedb88320 | 1, 0x04c11db7}
	for range 40 {
		patterns = append(patterns, r.Uint32()|1)
	}
	const size = 40
	payload := make([]byte, size)
	r.Read(payload)
	f := mustFrame(t, string(payload))
	for _, pattern := range patterns {
		for from := 8 * headSize; from <= 8*len(f)-32; from++ {
			wantUnframed(t, turned(f, from, pattern)+"x", "", "", api.ErrFrame)
		}
	}
	for bit := 8 * headSize; bit < 8*len(f); bit++ {
		b := []byte(f)
		b[bit/8] ^= 1 << (bit % 8)
		wantUnframed(t, string(b), "", "", api.ErrFrame)
	}
}

func TestTurnedBitsOfTheCrcAreSeen(t *testing.T) { // P3.11
	r := rand.New(rand.NewSource(4))
	for _, payload := range []string{"", "ab", strings.Repeat("q", 300)} {
		f := mustFrame(t, payload)
		for bit := range 32 {
			wantUnframed(t, turned(f, 8*fieldSize, 1<<bit), "", "", api.ErrFrame)
		}
		for range 300 {
			if pattern := r.Uint32(); pattern != 0 {
				wantUnframed(t, turned(f, 8*fieldSize, pattern), "", "", api.ErrFrame)
			}
		}
	}
}

func TestUnframeTakesAnyBytes(t *testing.T) { // P3.12
	r := rand.New(rand.NewSource(9))
	for range 20000 {
		s := randomText(r)
		if r.Intn(2) == 0 && len(s) > 4 {
			s = "\x00\x00\x00" + string([]byte{byte(r.Intn(len(s)))}) + s[4:]
		}
		p, rest, e := Unframe(s)
		again, restAgain, eAgain := Unframe(s)
		if p != again || rest != restAgain || e != eAgain {
			t.Fatalf("%x was unframed in two ways", s)
		}
		if e != api.OK && (p != "" || rest != "") {
			t.Fatalf("Unframe(%x) = %q, %q beside the error %d", s, p, rest, e)
		}
		if e == api.OK && mustFrame(t, p)+rest != s {
			t.Fatalf("Unframe(%x) = %q, %q, which don't make it", s, p, rest)
		}
	}
}
