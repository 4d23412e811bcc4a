package route

import (
	"math/rand"
	"slices"
	"testing"

	"tidemark/api"
)

// spoil changes all of a list, its spare room too.
func spoil[T any](list []T, with T) {
	for i := range list[:cap(list)] {
		list[:cap(list)][i] = with
	}
}

func span(lo, hi string) api.Span { return api.Span{Lo: lo, Hi: hi} }

func put(key, value string) api.Write { return api.Write{Key: key, Value: value} }

func part(shard uint32, lo, hi string) api.Part { return api.Part{Shard: shard, Span: span(lo, hi)} }

func puts(keys ...string) []api.Write {
	var list []api.Write
	for _, key := range keys {
		list = append(list, put(key, "1"))
	}
	return list
}

func wantOwner(t *testing.T, c api.Config, key string, want uint32) {
	t.Helper()
	if got := Owner(c, key); got != want {
		t.Errorf("Owner(%v, %q) = %d, want %d", c, key, got, want)
	}
}

func wantCut(t *testing.T, c api.Config, s api.Span, want ...api.Part) {
	t.Helper()
	if got := Cut(c, s); !slices.Equal(got, want) {
		t.Errorf("Cut(%v, %q) = %v, want %v", c, s, got, want)
	}
}

func sameShare(a, b api.Share) bool {
	return a.Shard == b.Shard && slices.Equal(a.Reads, b.Reads) && slices.Equal(a.Writes, b.Writes)
}

func wantShares(t *testing.T, c api.Config, reads []api.Span, writes []api.Write, want ...api.Share) {
	t.Helper()
	if got := Shares(c, reads, writes); !slices.EqualFunc(got, want, sameShare) {
		t.Errorf("Shares(%v, %q, %v) = %v, want %v", c, reads, writes, got, want)
	}
}

func wantHome(t *testing.T, c api.Config, writes []api.Write, want uint32, there bool) {
	t.Helper()
	if got, ok := Home(c, writes); got != want || ok != there {
		t.Errorf("Home(%v, %v) = %d, %v, want %d, %v", c, writes, got, ok, want, there)
	}
}

// single is a configuration of one shard.
func single() api.Config { return api.Config{Shards: 1, Clients: 1, Capacity: 256} }

// six is a configuration of six shards.
func six() api.Config {
	return api.Config{Shards: 6, Clients: 6, Splits: []string{"\x00", "a", "a\x00", "b", "\xff\xff"}, Capacity: 256}
}

// P12.4: the chapter's examples, the edges of the ranges, and texts that are no keys.
func TestOwner(t *testing.T) {
	for key, want := range map[string]uint32{"a": 0, "g": 1, "ozz": 1, "p": 2, "": 0, "f": 0, "f\xff\xff": 0, "g\x00": 1, "o\xff": 1, "p\x00": 2, "\xff": 2, "\x00": 0, "G": 0, anyLong("o"): 1, anyLong("p"): 2, anyLong("f"): 0} {
		wantOwner(t, config(), key, want)
		wantOwner(t, single(), key, 0)
	}
	for i, key := range []string{"", "\x00", "a", "a\x00", "b", "\xff\xff"} {
		wantOwner(t, six(), key, uint32(i))
		wantOwner(t, six(), key+"\x00\x00", uint32([]int{1, 1, 3, 3, 4, 5}[i]))
	}
}

// anyLong is a text too long for a key.
func anyLong(letter string) string {
	text := letter
	for len(text) < 4096 {
		text += text
	}
	return text
}

// P12.5: the chapter's examples, and the edges.
func TestCut(t *testing.T) {
	c := config()
	wantCut(t, c, span("b", "p"), part(0, "b", "g"), part(1, "g", "p"))
	wantCut(t, c, span("b", "p\x00"), part(0, "b", "g"), part(1, "g", "p"), part(2, "p", "p\x00"))
	wantCut(t, c, span("q", ""), part(2, "q", ""))
	wantCut(t, c, span("b", "b"))
	wantCut(t, c, span("", ""), part(0, "", "g"), part(1, "g", "p"), part(2, "p", ""))
	wantCut(t, c, span("", "a"), part(0, "", "a"))
	wantCut(t, c, span("", "g"), part(0, "", "g"))
	wantCut(t, c, span("", "g\x00"), part(0, "", "g"), part(1, "g", "g\x00"))
	wantCut(t, c, span("f\xff", "g"), part(0, "f\xff", "g"))
	wantCut(t, c, span("g", ""), part(1, "g", "p"), part(2, "p", ""))
	wantCut(t, c, span("g", "g\x00"), part(1, "g", "g\x00"))
	wantCut(t, c, span("g", "p"), part(1, "g", "p"))
	wantCut(t, c, span("h", "i"), part(1, "h", "i"))
	wantCut(t, c, span("p", ""), part(2, "p", ""))
	wantCut(t, c, span("p", "q"), part(2, "p", "q"))
	wantCut(t, c, span("o", "q"), part(1, "o", "p"), part(2, "p", "q"))
	wantCut(t, c, span(anyLong("a"), anyLong("o")), part(0, anyLong("a"), "g"), part(1, "g", anyLong("o")))
	for _, none := range []api.Span{span("c", "b"), span("p", "g"), span("g", "g"), span("p", "p"), span("z", "a"), span("\x00", "\x00"), span("g\x00", "g"), span("h", "a"), span("z", "h"), span("z", "y"), span("b", "a")} {
		wantCut(t, c, none)
		wantCut(t, single(), none)
	}
	for _, all := range []api.Span{span("", ""), span("a", ""), span("", "a"), span("a", "b")} {
		wantCut(t, single(), all, part(0, all.Lo, all.Hi))
	}
	wantCut(t, six(), span("", ""), part(0, "", "\x00"), part(1, "\x00", "a"), part(2, "a", "a\x00"), part(3, "a\x00", "b"), part(4, "b", "\xff\xff"), part(5, "\xff\xff", ""))
	wantCut(t, six(), span("a", "a\x00"), part(2, "a", "a\x00"))
}

// P12.6: the chapter's example, orders and repeats, and what is neither valid reads nor valid writes.
func TestShares(t *testing.T) {
	c := config()
	wantShares(t, c, []api.Span{span("a", "h"), span("h", "h\x00")}, []api.Write{put("z", "1")},
		api.Share{Shard: 0, Reads: []api.Span{span("a", "g")}},
		api.Share{Shard: 1, Reads: []api.Span{span("g", "h"), span("h", "h\x00")}},
		api.Share{Shard: 2, Writes: []api.Write{put("z", "1")}})
	wantShares(t, c, nil, nil)
	wantShares(t, c, []api.Span{span("b", "b"), span("z", "a")}, []api.Write{})
	wantShares(t, c, []api.Span{span("q", ""), span("q", ""), span("b", "a"), span("p", "z")}, nil,
		api.Share{Shard: 2, Reads: []api.Span{span("q", ""), span("q", ""), span("p", "z")}})
	wantShares(t, c, []api.Span{span("b", "b")}, []api.Write{put("h", "1")}, api.Share{Shard: 1, Writes: puts("h")})
	odd := []api.Write{put("z", "2"), put("a", "1"), {Key: "z", Delete: true, Value: "3"}, put("", ""), put("a", "1"), put(anyLong("o"), anyLong("v")), {Key: "g", Delete: true}}
	wantShares(t, c, []api.Span{span("", "")}, odd,
		api.Share{Shard: 0, Reads: []api.Span{span("", "g")}, Writes: []api.Write{odd[1], odd[3], odd[4]}},
		api.Share{Shard: 1, Reads: []api.Span{span("g", "p")}, Writes: []api.Write{odd[5], odd[6]}},
		api.Share{Shard: 2, Reads: []api.Span{span("p", "")}, Writes: []api.Write{odd[0], odd[2]}})
	wantShares(t, single(), []api.Span{span("b", "a"), span("x", ""), span("a", "b")}, odd, api.Share{Reads: []api.Span{span("x", ""), span("a", "b")}, Writes: odd})
	wantShares(t, six(), []api.Span{span("b", "")}, puts("a", "a\x00"),
		api.Share{Shard: 2, Writes: puts("a")}, api.Share{Shard: 3, Writes: puts("a\x00")}, api.Share{Shard: 4, Reads: []api.Span{span("b", "\xff\xff")}}, api.Share{Shard: 5, Reads: []api.Span{span("\xff\xff", "")}})
}

// P12.6: more than a transaction may have.
func TestSharesOfManyReadsAndWrites(t *testing.T) {
	const n = 10000
	reads, writes := slices.Repeat([]api.Span{span("h", "q")}, n), slices.Repeat(puts("h"), n)
	wantShares(t, config(), reads, writes, api.Share{Shard: 1, Reads: slices.Repeat([]api.Span{span("h", "p")}, n), Writes: writes}, api.Share{Shard: 2, Reads: slices.Repeat([]api.Span{span("p", "q")}, n)})
}

// P12.7: the chapter's examples, and writes in any order.
func TestHome(t *testing.T) {
	c := config()
	wantHome(t, c, puts("h", "z"), 1, true)
	wantHome(t, c, nil, 0, false)
	wantHome(t, c, []api.Write{}, 0, false)
	wantHome(t, c, puts("z"), 2, true)
	wantHome(t, c, puts("z", "g", "a"), 0, true)
	wantHome(t, c, puts("z", "g"), 1, true)
	wantHome(t, c, puts("z", "g", "z"), 1, true)
	wantHome(t, c, puts("a"), 0, true)
	wantHome(t, c, puts(""), 0, true)
	wantHome(t, c, puts("p", "p"), 2, true)
	wantHome(t, c, []api.Write{{Key: "q", Delete: true}}, 2, true)
	wantHome(t, single(), puts("z"), 0, true)
	wantHome(t, single(), nil, 0, false)
}

// 'Which shard': of what is not valid nothing is told.
func TestAConfigurationThatIsNotValidHasNoShards(t *testing.T) {
	for _, c := range wrongs() {
		wantOwner(t, c, "z", 0)
		wantCut(t, c, span("", ""))
		wantCut(t, c, span("z", ""))
		wantShares(t, c, []api.Span{span("", "")}, puts("a", "z"))
		wantHome(t, c, puts("z"), 0, false)
	}
}

// P12.9, DOC.md, 'Lists': what is handed in stays as it is, spare room too.
func TestWhatIsHandedInStays(t *testing.T) {
	splits, reads, writes := []string{"g", "p", "x"}, []api.Span{span("q", ""), span("", ""), span("b", "a"), span("x", "")}, puts("z", "a", "h", "x")
	c := changed(func(c *api.Config) { c.Splits = slices.Clone(splits)[:2] })
	r, w := slices.Clone(reads), slices.Clone(writes)
	Owner(c, "h")
	Cut(c, r[0])
	Shares(c, r[:3], w[:3])
	Home(c, w[:3])
	if !slices.Equal(c.Splits[:3], splits) || !slices.Equal(r, reads) || !slices.Equal(w, writes) {
		t.Errorf("what was handed in has become %q, %q, %v", c.Splits[:3], r, w)
	}
}

// P12.9: no list of an answer shares memory with another list of it, of another answer, or with what was handed in, spare room too.
func TestSharesAreNewMemory(t *testing.T) {
	reads, writes := []api.Span{span("", ""), span("a", ""), span("", "z")}, puts("a", "b", "c", "h", "i", "j", "x", "y", "z")
	ask := func() []api.Share { return Shares(config(), reads, writes) }
	want, other := ask(), ask()
	for i := range want {
		one := ask()
		spoil(one[i].Reads, span("!", "!"))
		spoilt := api.Share{Shard: uint32(i), Reads: one[i].Reads, Writes: want[i].Writes}
		if !sameShare(one[i], spoilt) || !slices.EqualFunc(slices.Delete(one, i, i+1), slices.Delete(ask(), i, i+1), sameShare) {
			t.Errorf("a change of the reads of share %d is seen in another list", i)
		}
		one = ask()
		spoil(one[i].Writes, put("!", "!"))
		spoilt = api.Share{Shard: uint32(i), Reads: want[i].Reads, Writes: one[i].Writes}
		if !sameShare(one[i], spoilt) || !slices.EqualFunc(slices.Delete(one, i, i+1), slices.Delete(ask(), i, i+1), sameShare) {
			t.Errorf("a change of the writes of share %d is seen in another list", i)
		}
		spoil(one, api.Share{})
	}
	if !slices.EqualFunc(other, want, sameShare) || !slices.EqualFunc(ask(), want, sameShare) {
		t.Errorf("a change of one answer is seen in another one: %v", other)
	}
	if !slices.Equal(reads, []api.Span{span("", ""), span("a", ""), span("", "z")}) || !slices.Equal(writes, puts("a", "b", "c", "h", "i", "j", "x", "y", "z")) {
		t.Errorf("a change of an answer is seen in what was handed in: %q, %v", reads, writes)
	}
}

// P12.9: where one list alone is handed in, or stands in one share alone, it is not handed out.
func TestSharesOfOneShardAreNewMemory(t *testing.T) {
	reads, writes := []api.Span{span("a", "b"), span("b", "c")}, puts("a", "b")
	for _, c := range []api.Config{single(), config()} {
		for _, share := range slices.Concat(Shares(c, reads, writes), Shares(c, reads, nil), Shares(c, nil, writes)) {
			spoil(share.Reads, span("!", "!"))
			spoil(share.Writes, put("!", "!"))
		}
		if !slices.Equal(reads, []api.Span{span("a", "b"), span("b", "c")}) || !slices.Equal(writes, puts("a", "b")) {
			t.Errorf("a change of an answer is seen in what was handed in: %q, %v", reads, writes)
		}
	}
}

// P12.9
func TestPartsAreNewMemory(t *testing.T) {
	one, two := Cut(config(), span("", "")), Cut(config(), span("", ""))
	spoil(one, api.Part{})
	if !slices.Equal(two, []api.Part{part(0, "", "g"), part(1, "g", "p"), part(2, "p", "")}) {
		t.Errorf("a change of one answer is seen in another one: %v", two)
	}
	wantCut(t, config(), span("", ""), two...)
}

// inside tells whether a key is in a span, by DOC.md's words.
func inside(s api.Span, key string) bool { return s.Lo <= key && (s.Hi == "" || key < s.Hi) }

// edges gives texts around the splits and the bounds of a span, and some others.
func edges(r *rand.Rand, c api.Config, s api.Span) []string {
	list := []string{"", "\x00", "a", "m", "\xff\xff\xff"}
	for _, text := range append([]string{s.Lo, s.Hi, anyText(r, 6), anyText(r, 6)}, c.Splits...) {
		list = append(list, text, text+"\x00", text+"\xff")
		if n := len(text); n > 0 {
			list = append(list, text[:n-1], text[:n-1]+string([]byte{text[n-1] - 1})+"\xff")
		}
	}
	slices.Sort(list)
	return slices.Compact(list)
}

// anySpan has its bounds at the splits often.
func anySpan(r *rand.Rand, c api.Config) api.Span {
	bound := func() string {
		if len(c.Splits) > 0 && r.Intn(2) == 0 {
			return c.Splits[r.Intn(len(c.Splits))] + []string{"", "", "\x00", "a"}[r.Intn(4)]
		}
		return anyText(r, 4)
	}
	return span(bound(), bound())
}

// P12.8: a key is in a span just if it is in one of its parts, then in one alone, which is its owner's.
func TestAKeyIsInThePartOfItsOwner(t *testing.T) {
	r := rand.New(rand.NewSource(5))
	for range 4000 {
		c := anyConfig(r)
		s := anySpan(r, c)
		parts := Cut(c, s)
		if !slices.IsSortedFunc(parts, func(a, b api.Part) int { return int(a.Shard) - int(b.Shard) }) {
			t.Errorf("Cut(%v, %q) = %v does not rise", c, s, parts)
		}
		last := uint32(0)
		for _, key := range edges(r, c, s) {
			owner := Owner(c, key)
			if owner < last || int(owner) >= c.Shards {
				t.Errorf("Owner(%v, %q) = %d, and %d of a lesser key", c, key, owner, last)
			}
			last = owner
			found := 0
			for _, p := range parts {
				if inside(p.Span, key) {
					if found++; p.Shard != owner {
						t.Errorf("Cut(%v, %q): %q is in a part of shard %d, not %d", c, s, key, p.Shard, owner)
					}
				}
			}
			if want := inside(s, key); found > 1 || (found == 1) != want {
				t.Errorf("Cut(%v, %q) = %v: %q is in %d parts, and in the span: %v", c, s, parts, key, found, want)
			}
		}
		for _, p := range parts {
			if s.Hi != "" && s.Hi <= s.Lo || p.Span.Hi != "" && p.Span.Hi <= p.Span.Lo || p.Span.Lo < s.Lo || Owner(c, p.Span.Lo) != p.Shard {
				t.Errorf("Cut(%v, %q) has the part %v", c, s, p)
			}
		}
	}
}

// P12.6, P12.7, P12.8: shares against Cut and Owner, one read and one write after the other.
func TestSharesAndHomeAgainstTheirWords(t *testing.T) {
	r := rand.New(rand.NewSource(6))
	for range 4000 {
		c := anyConfig(r)
		var reads []api.Span
		for range r.Intn(5) {
			reads = append(reads, anySpan(r, c))
		}
		var writes []api.Write
		for range r.Intn(5) {
			writes = append(writes, api.Write{Key: anySpan(r, c).Lo, Delete: r.Intn(2) == 0, Value: anyText(r, 3)})
		}
		var want []api.Share
		home, there := uint32(0), false
		for shard := range uint32(c.Shards) {
			share := api.Share{Shard: shard}
			for _, s := range reads {
				for _, p := range Cut(c, s) {
					if p.Shard == shard {
						share.Reads = append(share.Reads, p.Span)
					}
				}
			}
			for _, w := range writes {
				if Owner(c, w.Key) == shard {
					share.Writes = append(share.Writes, w)
				}
			}
			if len(share.Writes) > 0 && !there {
				home, there = shard, true
			}
			if len(share.Reads) > 0 || len(share.Writes) > 0 {
				want = append(want, share)
			}
		}
		wantShares(t, c, reads, writes, want...)
		wantHome(t, c, writes, home, there)
	}
}
