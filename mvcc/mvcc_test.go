package mvcc

import (
	"slices"
	"strings"
	"testing"

	"tidemark/api"
)

// Limits of DOC.md, told apart from api's constants.
const (
	maxKey    = 32
	maxValue  = 64
	maxWrites = 16
	maxPairs  = 512
	topWall   = 1<<64 - 1
	topNumber = 1<<32 - 1
)

var (
	whole = api.Span{}
	end   = api.Stamp{Wall: topWall, Logical: topNumber, Node: topNumber}
	last  = api.Stamp{Wall: topWall - 1, Logical: topNumber, Node: topNumber} // the greatest usable one
)

func at(wall uint64, logical, node uint32) api.Stamp {
	return api.Stamp{Wall: wall, Logical: logical, Node: node}
}

func span(lo, hi string) api.Span { return api.Span{Lo: lo, Hi: hi} }

func point(key string) api.Span { return span(key, key+"\x00") }

func put(key, value string) api.Write { return api.Write{Key: key, Value: value} }

func del(key string) api.Write { return api.Write{Key: key, Delete: true} }

func version(key string, at api.Stamp, value string) api.Version {
	return api.Version{Key: key, At: at, Value: value}
}

func tombstone(key string, at api.Stamp) api.Version {
	return api.Version{Key: key, At: at, Delete: true}
}

func pairs(texts ...string) []api.Pair {
	var list []api.Pair
	for _, text := range texts {
		key, value, _ := strings.Cut(text, "=")
		list = append(list, api.Pair{Key: key, Value: value})
	}
	return list
}

func numbered(i int) string { return string([]byte{'k', byte(i >> 8), byte(i)}) }

func wantInstall(t *testing.T, s *Store, at api.Stamp, want api.Errno, writes ...api.Write) {
	t.Helper()
	if got := s.Install(writes, at); got != want {
		t.Errorf("Install(%v, %v) = %d, want %d", writes, at, got, want)
	}
}

func wantRead(t *testing.T, s *Store, span api.Span, at api.Stamp, want ...string) {
	t.Helper()
	got, e := s.Read(span, at)
	if e != api.OK || !slices.Equal(got, pairs(want...)) {
		t.Errorf("Read(%q, %v) = %q, %d, want %q, 0", span, at, got, e, want)
	}
}

func wantRefusal(t *testing.T, s *Store, span api.Span, at api.Stamp, want api.Errno) {
	t.Helper()
	if got, e := s.Read(span, at); len(got) != 0 || e != want {
		t.Errorf("Read(%q, %v) = %d pairs, %d, want none, %d", span, at, len(got), e, want)
	}
}

func wantAbove(t *testing.T, s *Store, span api.Span, at api.Stamp, want bool) {
	t.Helper()
	if got := s.Above(span, at); got != want {
		t.Errorf("Above(%q, %v) = %v, want %v", span, at, got, want)
	}
}

// wantPrune holds a Prune against how many go and what the watermark is then.
func wantPrune(t *testing.T, s *Store, mark api.Stamp, gone int, watermark api.Stamp) {
	t.Helper()
	if got := s.Prune(mark); got != gone || s.Watermark() != watermark {
		t.Errorf("Prune(%v) = %d with the watermark %v, want %d with %v", mark, got, s.Watermark(), gone, watermark)
	}
}

func wantAll(t *testing.T, s *Store, want ...api.Version) {
	t.Helper()
	if got := s.Dump(); !slices.Equal(got, want) {
		t.Errorf("Dump() = %v, want %v", got, want)
	}
	if got := s.Len(); got != len(want) {
		t.Errorf("Len() = %d, want %d", got, len(want))
	}
}

// loaded is a store of versions that Load takes.
func loaded(t *testing.T, mark api.Stamp, versions ...api.Version) *Store {
	t.Helper()
	s, e := Load(versions, mark)
	if e != api.OK || s == nil {
		t.Fatalf("Load(%v, %v) = %v, %d", versions, mark, s, e)
	}
	return s
}

// filled is a store with n keys, numbered from 0 on, each with a version at one stamp.
func filled(t *testing.T, n int, at api.Stamp) *Store {
	t.Helper()
	var list []api.Version
	for i := range n {
		list = append(list, version(numbered(i), at, "v"))
	}
	return loaded(t, api.Stamp{}, list...)
}

// P9.1
func TestANewStoreIsEmpty(t *testing.T) {
	s := New()
	wantAll(t, s)
	if s.Watermark() != (api.Stamp{}) {
		t.Errorf("Watermark() = %v", s.Watermark())
	}
	wantRead(t, s, whole, api.Stamp{})
	wantRead(t, s, whole, end)
	wantAbove(t, s, whole, api.Stamp{}, false)
}

// A Store as Go makes it is an empty one.
func TestAStoreThatNewDidNotMakeIsEmpty(t *testing.T) {
	s := &Store{}
	wantAll(t, s)
	wantRead(t, s, whole, end)
	wantAbove(t, s, whole, api.Stamp{}, false)
	wantPrune(t, s, at(1, 0, 0), 0, at(1, 0, 0))
	wantInstall(t, s, at(2, 0, 0), api.OK, put("a", "1"))
	wantAll(t, s, version("a", at(2, 0, 0), "1"))
}

// P9.2 to P9.7
func TestTheChaptersExamples(t *testing.T) {
	s := New()
	wantInstall(t, s, at(5, 0, 0), api.OK, put("a", "1"), put("c", "1"))
	wantInstall(t, s, at(7, 0, 1), api.OK, put("b", "2"), del("c"))
	wantInstall(t, s, at(7, 0, 1), api.ErrOrder, put("a", "9"), put("c", "9"))
	wantInstall(t, s, at(6, 0, 0), api.ErrOrder, put("a", "9"), put("c", "9"))
	wantInstall(t, s, at(9, 0, 0), api.ErrArg, put("b", "1"), put("a", "1"))
	wantRead(t, s, whole, at(4, 9, 9))
	wantRead(t, s, whole, at(5, 0, 0), "a=1", "c=1")
	wantRead(t, s, whole, at(7, 0, 0), "a=1", "c=1")
	wantRead(t, s, whole, at(7, 0, 1), "a=1", "b=2")
	wantRead(t, s, span("b", "c"), at(8, 0, 0), "b=2")
	wantRead(t, s, span("c", "b"), at(8, 0, 0))
	wantAbove(t, s, point("a"), at(5, 0, 0), false)
	wantAbove(t, s, point("a"), at(4, 0, 0), true)
	wantAbove(t, s, span("c", ""), at(5, 0, 0), true)
	wantAll(t, s, version("a", at(5, 0, 0), "1"), version("b", at(7, 0, 1), "2"), version("c", at(5, 0, 0), "1"), tombstone("c", at(7, 0, 1)))
	wantPrune(t, s, at(7, 0, 1), 2, at(7, 0, 1))
	wantRefusal(t, s, whole, at(7, 0, 0), api.ErrOld)
	wantPrune(t, s, at(6, 0, 0), 0, at(7, 0, 1))
	wantInstall(t, s, at(6, 0, 0), api.OK, put("c", "3"))
	wantRead(t, s, whole, at(7, 0, 1), "a=1", "b=2", "c=3")
	wantAll(t, s, version("a", at(5, 0, 0), "1"), version("b", at(7, 0, 1), "2"), version("c", at(6, 0, 0), "3"))
}

// P9.2
func TestInstallRefusesWhatIsNoWrites(t *testing.T) {
	many := make([]api.Write, maxWrites+1)
	for i := range many {
		many[i] = put(numbered(i), "v")
	}
	stood := version("k", at(3, 0, 0), "v")
	s := loaded(t, api.Stamp{}, stood)
	for _, writes := range [][]api.Write{
		{put("", "v")}, {put("a", "v"), put("", "v")}, {put(strings.Repeat("k", maxKey+1), "v")}, {put("a", strings.Repeat("v", maxValue+1))},
		{{Key: "a", Delete: true, Value: "v"}}, {put("a", "1"), put("a", "2")}, {put("b", "1"), put("a", "2")}, {put("\x80", "1"), put("\x7f", "2")}, many,
	} {
		wantInstall(t, s, at(9, 0, 0), api.ErrArg, writes...)
		wantAll(t, s, stood)
	}
	wantInstall(t, s, at(9, 0, 0), api.OK, many[:maxWrites]...)
	wantInstall(t, s, at(9, 0, 0), api.OK, put(strings.Repeat("l", maxKey), strings.Repeat("v", maxValue)), put("\x7f", ""), put("\x80\x00", "\xff"))
	if s.Len() != 1+maxWrites+3 {
		t.Errorf("Len() = %d", s.Len())
	}
}

// P9.2
func TestInstallTellsTheFirstOfItsErrors(t *testing.T) {
	stood := version("k", at(3, 4, 5), "v")
	s := loaded(t, api.Stamp{}, stood)
	wrong, late := put("", "v"), put("k", "w")
	wantInstall(t, s, at(topWall, 0, 0), api.ErrExhausted)
	wantInstall(t, s, at(topWall, 0, 0), api.ErrExhausted, wrong)
	wantInstall(t, s, end, api.ErrExhausted, put("a", "v"))
	wantInstall(t, s, at(3, 4, 5), api.ErrArg, late, wrong)
	wantInstall(t, s, at(3, 4, 5), api.ErrArg, wrong, late)
	wantInstall(t, s, at(3, 4, 5), api.ErrOrder, late)
	wantAll(t, s, stood)
	wantInstall(t, s, last, api.OK, late)
	wantAll(t, s, stood, version("k", last, "w"))
}

// P9.2
func TestInstallGoesUpwardsUnderEachKey(t *testing.T) {
	stood := []api.Version{version("k", at(1, 0, 0), "old"), tombstone("k", at(3, 4, 5)), version("z", at(9, 9, 9), "new")}
	s := loaded(t, api.Stamp{}, stood...)
	for _, low := range []api.Stamp{{}, at(1, 0, 0), at(2, 0, 0), at(2, 9, 9), at(3, 3, 9), at(3, 4, 4), at(3, 4, 5)} {
		wantInstall(t, s, low, api.ErrOrder, put("k", "v"))
		wantInstall(t, s, low, api.ErrOrder, del("k"))
		wantInstall(t, s, low, api.ErrOrder, put("a", "v"), put("k", "v"), put("zz", "v"))
		wantAll(t, s, stood...)
	}
	wantInstall(t, s, at(3, 4, 6), api.ErrOrder, put("k", "v"), put("z", "v"))
	wantAll(t, s, stood...)
	for _, next := range []api.Stamp{at(3, 4, 6), at(3, 5, 0), at(4, 0, 0)} {
		wantInstall(t, s, next, api.OK, put("k", "v"))
	}
	wantInstall(t, s, api.Stamp{}, api.OK, put("a", "v"), del("b"))
	wantAll(t, s, version("a", api.Stamp{}, "v"), tombstone("b", api.Stamp{}),
		stood[0], stood[1], version("k", at(3, 4, 6), "v"), version("k", at(3, 5, 0), "v"), version("k", at(4, 0, 0), "v"), stood[2])
}

// P9.2
func TestInstallOfNoWritesChangesNothing(t *testing.T) {
	stood := version("k", at(3, 0, 0), "v")
	s := loaded(t, at(2, 0, 0), stood)
	if e := s.Install(nil, at(1, 0, 0)); e != api.OK {
		t.Errorf("Install(nil) = %d", e)
	}
	wantInstall(t, s, at(9, 0, 0), api.OK, []api.Write{}...)
	wantAll(t, s, stood)
	if s.Watermark() != at(2, 0, 0) {
		t.Errorf("Watermark() = %v", s.Watermark())
	}
}

// P9.2
func TestInstallTakesNoHeedOfTheWatermark(t *testing.T) {
	s := loaded(t, at(7, 0, 0))
	wantInstall(t, s, at(7, 0, 0), api.OK, put("a", "1"))
	wantInstall(t, s, at(2, 0, 0), api.OK, put("b", "2"), del("c"))
	wantInstall(t, s, at(3, 0, 0), api.OK, put("b", "3"))
	wantAll(t, s, version("a", at(7, 0, 0), "1"), version("b", at(2, 0, 0), "2"), version("b", at(3, 0, 0), "3"), tombstone("c", at(2, 0, 0)))
	wantRead(t, s, whole, at(7, 0, 0), "a=1", "b=3")
}

// P9.3
func TestReadSeesTheNewestAtOrBelow(t *testing.T) {
	s := loaded(t, api.Stamp{},
		version("a", at(1, 0, 0), "1"), version("a", at(1, 0, 1), "2"), version("a", at(1, 1, 0), "3"), tombstone("a", at(2, 0, 0)), version("a", at(4, 0, 0), ""),
		tombstone("b", at(3, 0, 0)), version("b", last, "top"))
	wantRead(t, s, whole, api.Stamp{})
	wantRead(t, s, whole, at(0, topNumber, topNumber))
	wantRead(t, s, whole, at(1, 0, 0), "a=1")
	wantRead(t, s, whole, at(1, 0, 1), "a=2")
	wantRead(t, s, whole, at(1, 0, topNumber), "a=2")
	wantRead(t, s, whole, at(1, 1, 0), "a=3")
	wantRead(t, s, whole, at(1, topNumber, topNumber), "a=3")
	wantRead(t, s, whole, at(2, 0, 0))
	wantRead(t, s, whole, at(3, 9, 9))
	wantRead(t, s, whole, at(4, 0, 0), "a=")
	wantRead(t, s, whole, at(topWall-1, topNumber, topNumber-1), "a=")
	wantRead(t, s, whole, last, "a=", "b=top")
	wantRead(t, s, whole, at(topWall, 0, 0), "a=", "b=top")
	wantRead(t, s, whole, end, "a=", "b=top")
}

// P9.3 and P9.4
func TestSpansAreTakenAsTheyAre(t *testing.T) {
	long := strings.Repeat("k", maxKey)
	keys := []string{"\x00", "a", "a\x00", "ab", "b", long, "\x7f", "\x80", "\xff\xff"}
	s := New()
	for _, key := range keys {
		wantInstall(t, s, at(1, 0, 0), api.OK, put(key, "v"))
	}
	bounds := append([]string{"", "\x00\x00", "a\x00\x00", "aa", "c", long + "\x00", "\xff", strings.Repeat("\xff", 9), strings.Repeat("a", 5000), strings.Repeat("z", 5000)}, keys...)
	for _, lo := range bounds {
		for _, hi := range bounds {
			var want []string
			for _, key := range keys {
				if lo <= key && (hi == "" || key < hi) {
					want = append(want, key+"=v")
				}
			}
			wantRead(t, s, span(lo, hi), at(1, 0, 0), want...)
			wantRead(t, s, span(lo, hi), api.Stamp{})
			wantAbove(t, s, span(lo, hi), api.Stamp{}, len(want) > 0)
			wantAbove(t, s, span(lo, hi), at(1, 0, 0), false)
		}
	}
}

// P9.3
func TestReadGivesAtMostMaxPairs(t *testing.T) {
	s := filled(t, maxPairs+1, at(5, 0, 0))
	wantRefusal(t, s, whole, at(5, 0, 0), api.ErrMany)
	wantRefusal(t, s, whole, end, api.ErrMany)
	wantRead(t, s, whole, at(4, 9, 9))
	for _, most := range []api.Span{span(numbered(1), ""), span("", numbered(maxPairs))} {
		if got, e := s.Read(most, at(5, 0, 0)); len(got) != maxPairs || e != api.OK {
			t.Errorf("Read(%q) = %d pairs, %d", most, len(got), e)
		}
	}
	wantInstall(t, s, at(6, 0, 0), api.OK, del(numbered(300)))
	wantRefusal(t, s, whole, at(5, 9, 9), api.ErrMany)
	if got, e := s.Read(whole, at(6, 0, 0)); len(got) != maxPairs || e != api.OK {
		t.Errorf("with a tombstone: Read = %d pairs, %d", len(got), e)
	}
	wantInstall(t, s, at(6, 0, 0), api.OK, put("z", "v"))
	wantRefusal(t, s, whole, at(6, 0, 0), api.ErrMany)
}

// P9.3
func TestReadBelowTheWatermarkIsOld(t *testing.T) {
	s := filled(t, maxPairs+1, at(1, 0, 0))
	s.Prune(at(5, 6, 7))
	for _, old := range []api.Stamp{{}, at(4, 9, 9), at(5, 5, 9), at(5, 6, 6)} {
		wantRefusal(t, s, whole, old, api.ErrOld)
		wantRefusal(t, s, span("b", "a"), old, api.ErrOld)
	}
	for _, now := range []api.Stamp{at(5, 6, 7), at(5, 6, 8), at(9, 0, 0), end} {
		wantRefusal(t, s, whole, now, api.ErrMany)
		wantRead(t, s, point(numbered(7)), now, numbered(7)+"=v")
	}
	s.Prune(end)
	wantRefusal(t, s, whole, at(topWall, topNumber, topNumber-1), api.ErrOld)
	wantRead(t, s, point(numbered(7)), end, numbered(7)+"=v")
}

// P9.4
func TestAboveAsksForTheNewestVersion(t *testing.T) {
	s := loaded(t, api.Stamp{},
		version("a", at(1, 0, 0), "1"), version("a", at(3, 4, 5), "2"), version("b", at(1, 0, 0), "1"), tombstone("b", at(7, 0, 0)), version("c", at(2, 0, 0), "1"))
	for _, below := range []api.Stamp{{}, at(1, 0, 0), at(2, 9, 9), at(3, 3, 9), at(3, 4, 4)} {
		wantAbove(t, s, point("a"), below, true)
	}
	for _, above := range []api.Stamp{at(3, 4, 5), at(3, 4, 6), at(3, 5, 0), at(4, 0, 0), end} {
		wantAbove(t, s, point("a"), above, false)
	}
	wantAbove(t, s, whole, at(6, 0, 0), true)
	wantAbove(t, s, span("", "b"), at(6, 0, 0), false)
	wantAbove(t, s, span("c", ""), at(6, 0, 0), false)
	wantAbove(t, s, whole, at(7, 0, 0), false)
}

// P9.4
func TestAboveTakesNoHeedOfTheWatermark(t *testing.T) {
	s := loaded(t, api.Stamp{}, version("a", at(2, 0, 0), "1"), tombstone("b", at(2, 0, 0)), tombstone("c", at(6, 0, 0)))
	s.Prune(at(5, 0, 0))
	wantAbove(t, s, point("a"), at(1, 0, 0), true)
	wantAbove(t, s, point("b"), at(1, 0, 0), false)
	wantAbove(t, s, point("c"), at(1, 0, 0), true)
	wantAbove(t, s, point("c"), at(5, 0, 0), true)
	wantAbove(t, s, point("c"), at(6, 0, 0), false)
}

// P9.5
func TestPruneKeepsWhatIsStillSeen(t *testing.T) {
	all := []api.Version{
		version("a", at(1, 0, 0), "1"), version("a", at(3, 0, 0), "2"), version("a", at(5, 0, 0), "3"), tombstone("a", at(7, 0, 0)),
		version("b", at(1, 0, 0), "1"), tombstone("b", at(5, 0, 0)), version("b", at(7, 0, 0), "2"),
		tombstone("c", at(2, 0, 0)),
		version("d", at(5, 0, 1), "1"),
		tombstone("e", at(5, 0, 1)),
		tombstone("f", at(1, 0, 0)), version("f", at(2, 0, 0), ""),
	}
	for _, c := range []struct {
		mark api.Stamp
		left []int // of all
	}{
		{at(0, 0, 1), []int{0, 1, 2, 3, 4, 5, 6, 7, 8, 9, 10, 11}},
		{at(1, 0, 0), []int{0, 1, 2, 3, 4, 5, 6, 7, 8, 9, 11}},
		{at(2, 9, 9), []int{0, 1, 2, 3, 4, 5, 6, 8, 9, 11}},
		{at(3, 0, 0), []int{1, 2, 3, 4, 5, 6, 8, 9, 11}},
		{at(4, 9, 9), []int{1, 2, 3, 4, 5, 6, 8, 9, 11}},
		{at(5, 0, 0), []int{2, 3, 6, 8, 9, 11}},
		{at(5, 0, 1), []int{2, 3, 6, 8, 11}},
		{at(7, 0, 0), []int{6, 8, 11}},
		{end, []int{6, 8, 11}},
	} {
		s := loaded(t, api.Stamp{}, all...)
		wantPrune(t, s, c.mark, len(all)-len(c.left), c.mark)
		var left []api.Version
		for _, i := range c.left {
			left = append(left, all[i])
		}
		wantAll(t, s, left...)
	}
}

// P9.5
func TestPruneWithAMarkThatIsNotAboveChangesNothing(t *testing.T) {
	all := []api.Version{version("a", at(1, 0, 0), "1"), version("a", at(2, 0, 0), "2"), tombstone("b", at(1, 0, 0))}
	s := loaded(t, at(5, 6, 7), all...)
	for _, mark := range []api.Stamp{{}, at(1, 0, 0), at(5, 6, 6), at(5, 5, 9), at(4, 9, 9), at(5, 6, 7)} {
		wantPrune(t, s, mark, 0, at(5, 6, 7))
		wantAll(t, s, all...)
	}
	wantPrune(t, s, at(5, 6, 8), 2, at(5, 6, 8))
	wantAll(t, s, all[1])

	s = loaded(t, api.Stamp{}, tombstone("a", api.Stamp{}))
	wantPrune(t, s, api.Stamp{}, 0, api.Stamp{})
	wantPrune(t, s, at(0, 0, 1), 1, at(0, 0, 1))
	wantAll(t, s)
}

// P9.5
func TestAKeyOfWhichNothingIsLeftBeginsAnew(t *testing.T) {
	s := loaded(t, api.Stamp{}, version("a", at(1, 0, 0), "1"), tombstone("a", at(8, 0, 0)), version("b", at(8, 0, 0), "1"))
	wantInstall(t, s, at(8, 0, 0), api.ErrOrder, put("a", "2"))
	wantPrune(t, s, at(9, 0, 0), 2, at(9, 0, 0))
	wantInstall(t, s, at(8, 0, 0), api.ErrOrder, put("b", "2"))
	wantInstall(t, s, api.Stamp{}, api.OK, put("a", "2"))
	wantRead(t, s, whole, at(9, 0, 0), "a=2", "b=1")
	wantAll(t, s, version("a", api.Stamp{}, "2"), version("b", at(8, 0, 0), "1"))
}

// P9.6
func TestWatermarkAndLen(t *testing.T) {
	s := New()
	wantInstall(t, s, at(4, 0, 0), api.OK, put("a", "1"), del("b"))
	wantInstall(t, s, at(5, 0, 0), api.OK, put("a", "2"))
	if s.Len() != 3 || s.Watermark() != (api.Stamp{}) {
		t.Errorf("Len() = %d, Watermark() = %v", s.Len(), s.Watermark())
	}
	s.Prune(at(4, 2, 1))
	if s.Len() != 2 || s.Watermark() != at(4, 2, 1) {
		t.Errorf("behind Prune: Len() = %d, Watermark() = %v", s.Len(), s.Watermark())
	}
	s.Prune(end)
	if s.Len() != 1 || s.Watermark() != end {
		t.Errorf("behind Prune at the end: Len() = %d, Watermark() = %v", s.Len(), s.Watermark())
	}
}

// P9.7
func TestDumpIsInOrder(t *testing.T) {
	s := New()
	for i, key := range []string{"\xff", "b", "a\x00", "a", "ab", "\x80", "\x7f"} {
		wantInstall(t, s, at(uint64(9-i), 0, 0), api.OK, put(key, "v"))
	}
	wantInstall(t, s, at(10, 0, 1), api.OK, put("a", "w"))
	wantInstall(t, s, at(10, 1, 0), api.OK, del("a"))
	wantAll(t, s,
		version("a", at(6, 0, 0), "v"), version("a", at(10, 0, 1), "w"), tombstone("a", at(10, 1, 0)), version("a\x00", at(7, 0, 0), "v"), version("ab", at(5, 0, 0), "v"),
		version("b", at(8, 0, 0), "v"), version("\x7f", at(3, 0, 0), "v"), version("\x80", at(4, 0, 0), "v"), version("\xff", at(9, 0, 0), "v"))
}

// P9.8
func TestLoadTellsTheFirstFault(t *testing.T) {
	a1, a2, b1 := version("a", at(1, 0, 0), "1"), version("a", at(2, 0, 0), "2"), version("b", at(1, 0, 0), "1")
	wrong := []api.Version{
		version("", at(9, 0, 0), "v"), version(strings.Repeat("z", maxKey+1), at(9, 0, 0), "v"), version("z", at(9, 0, 0), strings.Repeat("v", maxValue+1)),
		{Key: "z", At: at(9, 0, 0), Delete: true, Value: "v"}, version("z", at(topWall, 0, 0), "v"), tombstone("z", end), version("a", at(topWall, 0, 0), "v"),
	}
	type row struct {
		e    api.Errno
		list []api.Version
	}
	rows := []row{
		{api.ErrOrder, []api.Version{a2, a1}}, {api.ErrOrder, []api.Version{a1, a1}}, {api.ErrOrder, []api.Version{b1, a1}}, {api.ErrOrder, []api.Version{b1, a2}},
		{api.ErrOrder, []api.Version{a1, b1, a2}}, {api.ErrOrder, []api.Version{a1, b1, b1}}, {api.ErrOrder, []api.Version{a1, tombstone("a", at(1, 0, 0))}},
		{api.ErrOrder, []api.Version{version("a", at(1, 1, 0), ""), version("a", at(1, 0, 1), "")}}, {api.ErrOrder, []api.Version{version("\x80", at(1, 0, 0), ""), version("\x7f", at(2, 0, 0), "")}},
	}
	for _, v := range wrong {
		rows = append(rows, row{api.ErrArg, []api.Version{v}}, row{api.ErrArg, []api.Version{b1, v}}, row{api.ErrArg, []api.Version{v, a2, a1}}, row{api.ErrOrder, []api.Version{a2, a1, v}})
	}
	for _, r := range rows {
		if s, e := Load(r.list, at(3, 0, 0)); s != nil || e != r.e {
			t.Errorf("Load(%v) = %v, %d, want none, %d", r.list, s, e, r.e)
		}
	}
}

// P9.8
func TestLoadTakesTheVersionsAsTheyAre(t *testing.T) {
	all := []api.Version{
		version("a", api.Stamp{}, ""), version("a", at(1, 0, 0), "1"), tombstone("a", at(1, 0, 1)), tombstone("a", last),
		version("b", at(1, 0, 0), strings.Repeat("v", maxValue)), tombstone(strings.Repeat("k", maxKey), at(1, 0, 0)), version("\xff", at(1, 0, 0), "\x00"),
	}
	for _, mark := range []api.Stamp{{}, at(5, 0, 0), last, end} {
		s := loaded(t, mark, all...)
		wantAll(t, s, all...)
		if s.Watermark() != mark {
			t.Errorf("Watermark() = %v, want %v", s.Watermark(), mark)
		}
	}
	wantAll(t, loaded(t, at(5, 0, 0)))
	wantAll(t, loaded(t, api.Stamp{}, []api.Version{}...))
	// More versions than a read may give, of more keys than an Install may have.
	s := filled(t, 2*maxPairs, at(1, 0, 0))
	if s.Len() != 2*maxPairs {
		t.Errorf("Len() = %d", s.Len())
	}
}
