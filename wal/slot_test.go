package wal

import (
	"encoding/binary"
	"math/rand"
	"strings"
	"testing"

	"tidemark/api"
)

const topGeneration = 1099511627776

// h gives the header of a generation, with the library's means.
func h(generation uint64) string {
	return frame(string(binary.AppendUvarint([]byte("\x00tide"), generation)))
}

// all gives the bytes of records, one behind the other.
func all(records ...api.Record) string {
	var b strings.Builder
	for _, r := range records {
		b.WriteString(bytesOf(r))
	}
	return b.String()
}

func wantScan(t *testing.T, what, bytes string, generation uint64, good int, records ...api.Record) {
	t.Helper()
	g, l, n := Scan(bytes)
	if g != generation || n != good || !allAlike(l, records) {
		t.Errorf("%q: Scan = %d, %.300v, %d, want %d, %.300v, %d", what, g, l, n, generation, records, good)
	}
}

func wantPick(t *testing.T, what, a, b string, slot int, records ...api.Record) {
	t.Helper()
	if k, l := Pick(a, b); k != slot || !allAlike(l, records) {
		t.Errorf("%s: Pick = %d, %.300v, want %d, %.300v", what, k, l, slot, records)
	}
}

// P7.4: the bytes of two headers, as they stand on a disk.
func TestTheHeadersBytes(t *testing.T) {
	if h(1) != "\x00\x00\x00\x06\xea\x75\x6f\x42\x00tide\x01" || h(2) != "\x00\x00\x00\x06\x73\x7c\x3e\xf8\x00tide\x02" {
		t.Fatalf("headers %x, %x", h(1), h(2))
	}
	for _, g := range []uint64{1, 2, 127, 128, 300, 1 << 32, topGeneration - 1, topGeneration} {
		if header(g) != h(g) {
			t.Errorf("header(%d) = %x, want %x", g, header(g), h(g))
		}
	}
}

// P7.4: the chapter's examples, and their like.
func TestScan(t *testing.T) {
	r5, im := reserve(5), image("x")
	half := bytesOf(reserve(6))[:5]
	wantScan(t, "nothing", "", 0, 0)
	wantScan(t, "header 1", h(1), 1, 14)
	wantScan(t, "header 2", h(2), 0, 0)
	wantScan(t, "header 1, image", h(1)+all(im), 1, 14)
	wantScan(t, "header 1, image, record", h(1)+all(im, r5), 1, 14)
	wantScan(t, "header 1, record and a half", h(1)+all(r5)+half, 1, 24, r5)
	wantScan(t, "header 1, record, image, record", h(1)+all(r5, im, r5), 1, 24, r5)
	wantScan(t, "header 2, image", h(2)+all(im), 2, 25, im)
	wantScan(t, "header 2, empty image", h(2)+all(image("")), 2, 24, image(""))
	wantScan(t, "header 2, half an image", h(2)+all(im)[:10], 0, 0)
	wantScan(t, "header 2, spoilt image", h(2)+all(im)[:10]+"y", 0, 0)
	wantScan(t, "header 2, record", h(2)+all(r5), 0, 0)
	wantScan(t, "header 2, record, image", h(2)+all(r5, im), 0, 0)
	wantScan(t, "header 2, two images", h(2)+all(im, im), 2, 25, im)
	wantScan(t, "header 2, image, records, image", h(2)+all(im, r5, r5, im, r5), 2, 45, im, r5, r5)
	wantScan(t, "header 2, image, record, rubbish", h(2)+all(im, r5)+"x", 2, 35, im, r5)
	wantScan(t, "header 2, image too long", h(2)+frame(payloadOf(image(strings.Repeat("i", longImage+1)))), 0, 0)
	greatest := image(strings.Repeat("i", longImage))
	wantScan(t, "header 2, longest image", h(2)+all(greatest, r5), 2, 14+8+4+longImage+10, greatest, r5)
	wantScan(t, "two headers", h(1)+h(1), 1, 14)
	wantScan(t, "headers 1 and 2", h(1)+h(2)+all(im), 1, 14)
	wantScan(t, "header behind an image", h(2)+all(im)+h(3)+all(im), 2, 25, im)
	wantScan(t, "no header", all(r5), 0, 0)
	wantScan(t, "an image alone", all(im), 0, 0)
	wantScan(t, "a byte ahead", "x"+h(1), 0, 0)
	every := someOfEach()
	wantScan(t, "all kinds", h(300)+all(every[4], every[0], every[1], every[2], every[3]), 300, len(h(300)+all(every...)), every[4], every[0], every[1], every[2], every[3])
}

// P7.4
func TestScanOfHeadersThatAreNone(t *testing.T) {
	rest := all(image("x"), reserve(5))
	for _, payload := range []string{
		"", "\x00", "\x00tide", "\x00tid\x01", "tide\x01", "\x01tide\x01", "\x05tide\x01", "\x00Tide\x01", "\x00tidy\x01",
		"\x00tide\x00", "\x00tide\x80\x00", "\x00tide\x81\x00", "\x00tide\x82\x00", "\x00tide\x80", "\x00tide\x01\x00", "\x00tide\x02\x00", "\x00tide\x02tide",
		"\x00tide\x81\x80\x80\x80\x80\x20",                     // 2^40 + 1
		"\x00tide\xff\xff\xff\xff\xff\xff\xff\xff\xff\x01",     // 2^64 - 1
		"\x00tide\x81\x80\x80\x80\x80\x80\x80\x80\x80\x02",     // 1, and a bit too high for any number
		"\x00tide\x81\x80\x80\x80\x80\x80\x80\x80\x80\x80\x01", // eleven bytes
	} {
		wantScan(t, "header of "+payload, frame(payload)+rest, 0, 0)
		wantScan(t, "header of "+payload, frame(payload), 0, 0)
	}
	for _, g := range []uint64{2, 127, 128, 1 << 32, topGeneration - 1, topGeneration} {
		wantScan(t, "a good one", h(g)+rest, g, len(h(g)+rest), image("x"), reserve(5))
	}
	wantScan(t, "beyond the last", h(topGeneration+1)+rest, 0, 0)
}

// wholeOnes counts how many of the frames are whole within n bytes.
func wholeOnes(frames []string, n int) (int, int) {
	good := 0
	for i, f := range frames {
		if good+len(f) > n {
			return i, good
		}
		good += len(f)
	}
	return len(frames), good
}

// P7.4: of a log that was cut anywhere just the whole records are told.
func TestScanOfALogThatWasCut(t *testing.T) {
	r := rand.New(rand.NewSource(74))
	for _, g := range []uint64{1, 2, 128, topGeneration} {
		for range 8 {
			var records []api.Record
			least := 1 // frames that must be whole
			if g > 1 {
				records = append(records, image(randomText(r, 60)))
				least = 2
			}
			for range r.Intn(8) {
				records = append(records, randomChange(r))
			}
			frames := []string{h(g)}
			for _, one := range records {
				frames = append(frames, bytesOf(one))
			}
			text := strings.Join(frames, "")
			for n := range len(text) + 1 {
				count, good := wholeOnes(frames, n)
				if count < least {
					wantScan(t, "cut", text[:n], 0, 0)
				} else {
					wantScan(t, "cut", text[:n], g, good, records[:count-1]...)
				}
			}
		}
	}
}

// P7.4: behind a frame that is spoilt or is no record's nothing is told any more.
func TestScanEndsAtTheFirstPlaceWhereNoRecordStands(t *testing.T) {
	before := []api.Record{image("x"), reserve(5), one(api.RecPrepare)}
	good := h(9) + all(before...)
	for _, bad := range badFields() {
		wantScan(t, "a record that may not be", good+bytesOf(bad)+all(reserve(6)), 9, len(good), before...)
	}
	for _, payload := range []string{"", "\x00", "\x06", "\x01", "\x01\x05\x00", "\x01\x85\x00", "\x05", "\x00tide\x01"} {
		wantScan(t, "no record's payload", good+frame(payload)+all(reserve(6)), 9, len(good), before...)
	}
	next := bytesOf(one(api.RecDecide))
	for i := range 8 * len(next) {
		b := []byte(next)
		b[i/8] ^= 1 << (i % 8)
		wantScan(t, "a bit turned", good+string(b)+all(reserve(6)), 9, len(good), before...)
	}
}

// P7.4: any bytes at all; what is told makes the good bytes again.
func TestScanTakesAnyBytes(t *testing.T) {
	r := rand.New(rand.NewSource(4))
	parts := func() string {
		switch r.Intn(8) {
		case 0:
			return h(uint64(r.Intn(4)))
		case 1:
			return randomText(r, 20)
		case 2:
			return frame(randomText(r, 6))
		case 3:
			return bytesOf(image(randomText(r, 9)))
		}
		return bytesOf(randomChange(r))
	}
	for range 20000 {
		text := ""
		if r.Intn(4) > 0 {
			text = h(uint64(r.Intn(4)))
		}
		for range r.Intn(6) {
			text += parts()
		}
		g, records, good := Scan(text)
		if g == 0 {
			if good != 0 || len(records) != 0 {
				t.Fatalf("Scan(%x) = %d, %v, %d", text, g, records, good)
			}
			continue
		}
		if h(g)+all(records...) != text[:good] {
			t.Fatalf("Scan(%x) = %d, %v, %d, which don't make it", text, g, records, good)
		}
		for i, one := range records {
			if (one.Kind == api.RecImage) != (i == 0 && g > 1) {
				t.Fatalf("Scan(%x) = %d, %v, %d: an image where none may be, or none", text, g, records, good)
			}
		}
	}
}

// P7.5
func TestPick(t *testing.T) {
	r5, r6, im := reserve(5), reserve(6), image("x")
	wantPick(t, "neither", "", "", -1)
	wantPick(t, "rubbish", "x", "yyyyyyyyyyyyyyyyyyyyyyyy", -1)
	wantPick(t, "headers without an image", h(2), h(2), -1)
	wantPick(t, "records without a header", all(r5), all(r6), -1)
	wantPick(t, "slot 0 alone", h(1), "x", 0)
	wantPick(t, "slot 0 alone, with a record", h(1)+all(r5), "", 0, r5)
	wantPick(t, "slot 1 alone", "x", h(1)+all(r5), 1, r5)
	wantPick(t, "slot 1 alone, without records", "", h(1), 1)
	wantPick(t, "slot 1 is higher", h(1)+all(r5, r6), h(2)+all(im), 1, im)
	wantPick(t, "slot 0 is higher", h(3)+all(im), h(2)+all(im, r5, r6), 0, im)
	wantPick(t, "slot 1 is far higher", h(2)+all(im), h(topGeneration)+all(im, r5), 1, im, r5)
	wantPick(t, "slot 1 is beyond the last", h(2)+all(im), h(topGeneration+1)+all(im, r5), 0, im)
	wantPick(t, "slot 1 would be higher", h(1)+all(r5), h(2)+all(im)[:9], 0, r5)
	wantPick(t, "slot 0 would be higher", h(5)+all(r5), h(2)+all(im, r6), 1, im, r6)
	wantPick(t, "one generation", h(1)+all(r5), h(1)+all(r6, r6), 0, r5)
	wantPick(t, "one generation with images", h(7)+all(im), h(7)+all(im, r6), 0, im)
	wantPick(t, "the same generation, slot 0 empty of records", h(1), h(1)+all(r5), 0)
	wantPick(t, "a log with a torn end", h(1), h(2)+all(im, r5)+"torn", 1, im, r5)
}

// P7.5: Pick goes by what Scan tells.
func TestPickGoesByTheGenerations(t *testing.T) {
	var texts []string
	for g := range uint64(4) {
		for _, behind := range []string{"", all(image("x")), all(image("y"), reserve(5)), all(reserve(6)), "rubbish"} {
			texts = append(texts, h(g)+behind)
		}
	}
	for _, a := range texts {
		for _, b := range texts {
			ga, ra, _ := Scan(a)
			gb, rb, _ := Scan(b)
			switch {
			case ga == 0 && gb == 0:
				wantPick(t, "none", a, b, -1)
			case ga >= gb:
				wantPick(t, "the first", a, b, 0, ra...)
			default:
				wantPick(t, "the second", a, b, 1, rb...)
			}
		}
	}
}

// DOC.md, 'Lists'.
func TestRecordsThatAreToldAreNew(t *testing.T) {
	text := h(1) + all(one(api.RecPrepare), one(api.RecPrepare))
	_, first, _ := Scan(text)
	_, second, _ := Scan(text)
	_, picked := Pick(text, "")
	first[0].Reads[0].Lo, first[0].Writes[0].Key = "changed", "changed"
	_ = append(first[0].Reads, api.Span{Lo: "more"})
	_ = append(first[0].Writes, api.Write{Key: "more"})
	_ = append(first[:1], api.Record{})
	for _, r := range []api.Record{second[0], second[1], picked[0], picked[1]} {
		if !alike(r, one(api.RecPrepare)) {
			t.Errorf("another record is now %v", r)
		}
	}
	_, again, _ := Scan(text)
	again[0].Reads[0].Lo, again[0].Writes[0].Key = "changed", "changed"
	if !alike(again[1], one(api.RecPrepare)) {
		t.Errorf("the record behind it is now %v", again[1])
	}
}
