package valid

import (
	"math"
	"strings"
	"testing"

	"tidemark/api"
)

// Limits of DOC.md, told apart from api's constants.
const (
	maxKey   = 32
	maxBound = 33
	maxValue = 64
	maxList  = 16 // of reads, of writes
	maxPairs = 512
)

func long(n int) string { return strings.Repeat("\xff", n) }

// keys gives n keys that rise.
func keys(n int) []string {
	var list []string
	for i := range n {
		list = append(list, string([]byte{byte(i >> 8), byte(i)}))
	}
	return list
}

func puts(keys ...string) []api.Write {
	var list []api.Write
	for _, k := range keys {
		list = append(list, api.Write{Key: k, Value: "v"})
	}
	return list
}

func pairs(keys ...string) []api.Pair {
	var list []api.Pair
	for _, k := range keys {
		list = append(list, api.Pair{Key: k, Value: "v"})
	}
	return list
}

func TestATransactionIdCountsFromOne(t *testing.T) {
	for _, id := range []api.Txn{{Seq: 1}, {Client: 9, Seq: 2}, {Client: math.MaxUint32, Seq: math.MaxUint32}} {
		if !Txn(id) {
			t.Errorf("Txn(%v) = false", id)
		}
	}
	for _, id := range []api.Txn{{}, {Client: 1}, {Client: math.MaxUint32}} {
		if Txn(id) {
			t.Errorf("Txn(%v) = true", id)
		}
	}
}

func TestAUsableStampHasAWallBelowTheTop(t *testing.T) {
	for _, s := range []api.Stamp{{}, {Wall: 1}, {Wall: math.MaxUint64 - 1, Logical: math.MaxUint32, Node: math.MaxUint32}} {
		if !Usable(s) {
			t.Errorf("Usable(%v) = false", s)
		}
	}
	for _, s := range []api.Stamp{{Wall: math.MaxUint64}, {Wall: math.MaxUint64, Logical: 1, Node: 2}} {
		if Usable(s) {
			t.Errorf("Usable(%v) = true", s)
		}
	}
}

func TestKeysAndValues(t *testing.T) {
	for _, text := range []string{"\x00", "a", long(maxKey)} {
		if !Key(text) {
			t.Errorf("Key(%q) = false", text)
		}
	}
	for _, text := range []string{"", long(maxKey + 1), long(1000)} {
		if Key(text) {
			t.Errorf("Key(%q) = true", text)
		}
	}
	for _, text := range []string{"", "\x00", "a", long(maxValue)} {
		if !Value(text) {
			t.Errorf("Value(%q) = false", text)
		}
	}
	for _, text := range []string{long(maxValue + 1), long(1000)} {
		if Value(text) {
			t.Errorf("Value(%q) = true", text)
		}
	}
}

func TestSpansAndReads(t *testing.T) {
	good := []api.Span{
		{}, {Lo: "a"}, {Hi: "a"}, {Lo: "a", Hi: "a\x00"}, {Lo: "a", Hi: "b"}, {Lo: "\x7f", Hi: "\x80"}, {Hi: "\x00"},
		{Lo: long(maxBound)}, {Hi: long(maxBound)}, {Lo: long(maxKey), Hi: long(maxBound)}, {Lo: long(maxKey) + "a", Hi: long(maxKey) + "b"},
	}
	for _, s := range good {
		if !Span(s) || !Reads([]api.Span{s}) || !Reads([]api.Span{s, s}) {
			t.Errorf("%q is refused", s)
		}
	}
	if !Reads(good) || !Reads(nil) || !Reads([]api.Span{}) {
		t.Error("valid reads are refused")
	}
	for _, s := range []api.Span{
		{Lo: "a", Hi: "a"}, {Lo: "b", Hi: "a"}, {Lo: "a\x00", Hi: "a"}, {Lo: "\x80", Hi: "\x7f"},
		{Lo: long(maxBound + 1)}, {Hi: long(maxBound + 1)}, {Lo: "a", Hi: long(maxBound + 1)}, {Lo: long(1000), Hi: long(1001)},
	} {
		if Span(s) || Reads([]api.Span{s}) || Reads([]api.Span{{}, s}) || Reads([]api.Span{s, {}}) {
			t.Errorf("%q is taken", s)
		}
	}
	if !Reads(make([]api.Span, maxList)) || Reads(make([]api.Span, maxList+1)) {
		t.Error("there may be 16 reads, and no more")
	}
}

func TestWrites(t *testing.T) {
	for i, list := range [][]api.Write{
		nil, {}, puts("a"), puts("\x00"), puts("a", "a\x00", "b"), puts("\x7f", "\x80"), puts(keys(maxList)...), puts(long(maxKey)),
		{{Key: "a"}}, {{Key: "a", Delete: true}, {Key: "b", Value: long(maxValue)}},
	} {
		if !Writes(list) {
			t.Errorf("row %d is refused", i)
		}
	}
	for i, list := range [][]api.Write{
		puts(""), puts("", "a"), puts("a", ""), puts("a", "a"), puts("b", "a"), puts("a", "c", "b"), puts("\x80", "\x7f"), puts(keys(maxList + 1)...),
		puts(long(maxKey + 1)), puts("a", long(maxKey+1)),
		{{Key: "a", Value: long(maxValue + 1)}}, {{Key: "a", Delete: true, Value: "v"}}, {{Key: "a"}, {Key: "b", Delete: true, Value: "v"}},
	} {
		if Writes(list) {
			t.Errorf("wrong row %d is taken", i)
		}
	}
}

func TestOneWrite(t *testing.T) {
	for _, w := range []api.Write{{Key: "a"}, {Key: "a", Value: "v"}, {Key: "a", Delete: true}, {Key: long(maxKey), Value: long(maxValue)}} {
		if !Write(w) {
			t.Errorf("Write(%v) = false", w)
		}
	}
	for _, w := range []api.Write{{}, {Value: "v"}, {Delete: true}, {Key: long(maxKey + 1)}, {Key: "a", Value: long(maxValue + 1)}, {Key: "a", Delete: true, Value: "v"}} {
		if Write(w) {
			t.Errorf("Write(%v) = true", w)
		}
	}
}

func TestPairs(t *testing.T) {
	for i, list := range [][]api.Pair{
		nil, {}, pairs("a"), pairs("a", "a\x00", "b"), pairs("\x7f", "\x80"), pairs(keys(maxPairs)...), pairs(long(maxKey)),
		{{Key: "a"}}, {{Key: "a", Value: long(maxValue)}},
	} {
		if !Pairs(list) || !AnyPairs(list) {
			t.Errorf("row %d is refused", i)
		}
	}
	for i, list := range [][]api.Pair{
		pairs(""), pairs("a", ""), pairs("a", "a"), pairs("b", "a"), pairs("\x80", "\x7f"),
		pairs(long(maxKey + 1)), {{Key: "a", Value: long(maxValue + 1)}}, {{Key: "a"}, {Key: "b", Value: long(maxValue + 1)}},
		append(pairs(keys(maxPairs)...), api.Pair{}),
	} {
		if Pairs(list) || AnyPairs(list) {
			t.Errorf("wrong row %d is taken", i)
		}
	}
	if many := pairs(keys(maxPairs + 1)...); Pairs(many) || !AnyPairs(many) {
		t.Error("there may be 512 pairs, and no more; but for their number any")
	}
}
