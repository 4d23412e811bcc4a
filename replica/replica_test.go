package replica

import (
	"slices"
	"strconv"
	"strings"
	"testing"

	"tidemark/api"
	"tidemark/backup"
)

// Limits of DOC.md, told apart from api's constants.
const (
	topWall   = 1<<64 - 1
	topSmall  = 1<<32 - 1
	maxKey    = 32
	maxValue  = 64
	maxWrites = 16
	maxPairs  = 512
)

func at(wall uint64, logical, node uint32) api.Stamp {
	return api.Stamp{Wall: wall, Logical: logical, Node: node}
}

func put(key, value string, s api.Stamp) api.Version {
	return api.Version{Key: key, At: s, Value: value}
}

func deleted(key string, s api.Stamp) api.Version {
	return api.Version{Key: key, At: s, Delete: true}
}

func changes(list ...api.Version) []api.Version { return list }

// numbered gives so many puts at one stamp, their keys rising.
func numbered(n int, s api.Stamp) []api.Version {
	var list []api.Version
	for i := range n {
		list = append(list, put("k"+strconv.Itoa(100000+i), strconv.Itoa(i), s))
	}
	return list
}

// told is pairs as one text.
func told(pairs []api.Pair) string {
	var words []string
	for _, p := range pairs {
		words = append(words, p.Key+"="+p.Value)
	}
	return strings.Join(words, " ")
}

// backupOf gives the text of a backup of pairs, each told as key=value.
func backupOf(t *testing.T, s api.Stamp, pairs ...string) string {
	t.Helper()
	var list []api.Pair
	for _, text := range pairs {
		key, value, _ := strings.Cut(text, "=")
		list = append(list, api.Pair{Key: key, Value: value})
	}
	text, e := backup.Write(s, list)
	if e != api.OK {
		t.Fatalf("no backup of %q at %v: %d", pairs, s, e)
	}
	return text
}

func loaded(t *testing.T, text string) *Replica {
	t.Helper()
	p, e := Load(text)
	if p == nil || e != api.OK {
		t.Fatalf("Load(%q): %v, %d", text, p, e)
	}
	return p
}

// grown gives a replica of the chapter's examples: B, and the first Feed.
func grown(t *testing.T) *Replica {
	t.Helper()
	p := loaded(t, backupOf(t, at(5, 0, 2), "a=1", "b="))
	wantFeed(t, p, api.OK, at(9, 0, 0), put("a", "2", at(7, 0, 0)), put("c", "1", at(7, 0, 0)), deleted("a", at(8, 0, 0)))
	return p
}

// wantStands holds a replica to its base, its bound and the number of its versions.
func wantStands(t *testing.T, what string, p *Replica, base, bound api.Stamp, n int) {
	t.Helper()
	if p.Base() != base || p.Bound() != bound || p.Len() != n {
		t.Errorf("%s: from %v to %v, %d versions, want from %v to %v, %d", what, p.Base(), p.Bound(), p.Len(), base, bound, n)
	}
}

func wantFeed(t *testing.T, p *Replica, want api.Errno, bound api.Stamp, list ...api.Version) {
	t.Helper()
	if e := p.Feed(list, bound); e != want {
		t.Errorf("Feed(%v, %v): %d, want %d", list, bound, e, want)
	}
}

func wantReads(t *testing.T, p *Replica, s api.Stamp, span api.Span, want ...string) {
	t.Helper()
	if pairs, e := p.Read(span, s); told(pairs) != strings.Join(want, " ") || e != api.OK {
		t.Errorf("Read(%q, %v): %q, %d, want %q", span, s, told(pairs), e, want)
	}
}

func wantNotRead(t *testing.T, p *Replica, s api.Stamp, want api.Errno) {
	t.Helper()
	if pairs, e := p.Read(api.Span{}, s); len(pairs) != 0 || e != want {
		t.Errorf("Read at %v: %q, %d, want %d", s, told(pairs), e, want)
	}
}

func wantTrim(t *testing.T, p *Replica, base api.Stamp, n int, want api.Errno) {
	t.Helper()
	if gone, e := p.Trim(base); gone != n || e != want {
		t.Errorf("Trim(%v): %d, %d, want %d, %d", base, gone, e, n, want)
	}
}

func wantSaves(t *testing.T, p *Replica, s api.Stamp, want ...string) {
	t.Helper()
	if text, e := p.Save(s); text != backupOf(t, s, want...) || e != api.OK {
		t.Errorf("Save(%v): %q, %d, want %q", s, text, e, want)
	}
}

func wantNotSaved(t *testing.T, p *Replica, s api.Stamp, want api.Errno) {
	t.Helper()
	if text, e := p.Save(s); text != "" || e != want {
		t.Errorf("Save(%v): %q, %d, want %d", s, text, e, want)
	}
}

// The chapter's examples, from the second row on.
func TestExamples(t *testing.T) {
	n := New()
	wantStands(t, "New", n, at(0, 0, 0), at(0, 0, 0), 0)
	wantNotRead(t, n, at(0, 0, 0), api.ErrEarly)
	if p, e := Load("x"); p != nil || e != api.ErrBackup {
		t.Errorf("Load(x): %v, %d", p, e)
	}
	p := loaded(t, backupOf(t, at(5, 0, 2), "a=1", "b="))
	wantStands(t, "Load", p, at(5, 0, 2), at(5, 0, 3), 2)
	wantNotRead(t, p, at(5, 0, 1), api.ErrOld)
	wantReads(t, p, at(5, 0, 2), api.Span{}, "a=1", "b=")
	wantNotRead(t, p, at(5, 0, 3), api.ErrEarly)

	p = grown(t)
	wantReads(t, p, at(6, 0, 0), api.Span{}, "a=1", "b=")
	wantReads(t, p, at(7, 0, 0), api.Span{}, "a=2", "b=", "c=1")
	wantReads(t, p, at(8, 9, 9), api.Span{}, "b=", "c=1")
	wantFeed(t, p, api.ErrOrder, at(10, 0, 0), put("c", "2", at(8, 0, 0)))
	wantFeed(t, p, api.ErrOrder, at(8, 0, 0))
	wantFeed(t, p, api.ErrOrder, at(9, 0, 0), put("c", "2", at(9, 0, 0)))
	wantFeed(t, p, api.ErrArg, at(12, 0, 0), put("c", "2", at(9, 0, 0)), put("", "1", at(1, 0, 0)))
	wantFeed(t, p, api.ErrOrder, at(12, 0, 0), put("c", "2", at(9, 5, 0)), put("c", "3", at(9, 5, 0)))
	wantStands(t, "behind refused Feeds", p, at(5, 0, 2), at(9, 0, 0), 5)
	wantSaves(t, p, at(7, 0, 0), "a=2", "b=", "c=1")
	wantNotSaved(t, p, at(9, 0, 0), api.ErrEarly)
	wantTrim(t, p, at(8, 0, 0), 3, api.OK)
	wantStands(t, "behind Trim", p, at(8, 0, 0), at(9, 0, 0), 2)
	wantNotRead(t, p, at(7, 0, 0), api.ErrOld)
	wantTrim(t, p, at(8, 0, 0), 0, api.ErrOld)
	wantTrim(t, p, at(9, 0, 0), 0, api.ErrEarly)
}

// P23.1: After, each field alone, the carries, and the end.
func TestAfter(t *testing.T) {
	for s, want := range map[api.Stamp]api.Stamp{
		at(0, 0, 0):                         at(0, 0, 1),
		at(5, 0, 2):                         at(5, 0, 3),
		at(5, 7, topSmall-1):                at(5, 7, topSmall),
		at(5, 0, topSmall):                  at(5, 1, 0),
		at(5, topSmall-1, topSmall):         at(5, topSmall, 0),
		at(5, topSmall, topSmall-1):         at(5, topSmall, topSmall),
		at(5, topSmall, 0):                  at(5, topSmall, 1),
		at(5, topSmall, topSmall):           at(6, 0, 0),
		at(topWall-1, topSmall, topSmall):   at(topWall, 0, 0),
		at(topWall, 0, 0):                   at(topWall, 0, 1),
		at(topWall, 3, topSmall):            at(topWall, 4, 0),
		at(topWall, topSmall, topSmall-1):   at(topWall, topSmall, topSmall),
		at(topWall, topSmall, topSmall):     at(topWall, topSmall, topSmall),
		at(1<<32-1, topSmall, topSmall):     at(1<<32, 0, 0),
		at(1<<63-1, topSmall, topSmall):     at(1<<63, 0, 0),
		at(1<<63, topSmall, 1<<31-1):        at(1<<63, topSmall, 1<<31),
		at(1<<63, 1<<31-1, topSmall):        at(1<<63, 1<<31, 0),
		at(topWall-1, topSmall, 0):          at(topWall-1, topSmall, 1),
		at(topWall-1, topSmall-1, topSmall): at(topWall-1, topSmall, 0),
	} {
		if got := After(s); got != want {
			t.Errorf("After(%v) = %v, want %v", s, got, want)
		}
	}
}

// P23.2: what Read of a backup refuses is refused; pairs of any number are taken, each at the backup's stamp.
func TestLoad(t *testing.T) {
	text := backupOf(t, at(5, 0, 2), "a=1", "b=")
	for _, spoilt := range []string{"", "x", text[1:], text[:len(text)-1], text + "\n", text + text, strings.Replace(text, "a 1", "a 2", 1), strings.ToUpper(text)} {
		if p, e := Load(spoilt); p != nil || e != api.ErrBackup {
			t.Errorf("Load(%q): %v, %d", spoilt, p, e)
		}
	}

	p := loaded(t, backupOf(t, at(0, 0, 0)))
	wantStands(t, "no pair, the least stamp", p, at(0, 0, 0), at(0, 0, 1), 0)
	wantReads(t, p, at(0, 0, 0), api.Span{})
	wantNotRead(t, p, at(0, 0, 1), api.ErrEarly)

	p = loaded(t, backupOf(t, at(0, 0, 0), "a=1"))
	wantStands(t, "a pair at the least stamp", p, at(0, 0, 0), at(0, 0, 1), 1)
	wantReads(t, p, at(0, 0, 0), api.Span{}, "a=1")

	p = loaded(t, backupOf(t, at(topWall-1, topSmall, topSmall), "a=1"))
	wantStands(t, "the greatest stamp that is usable", p, at(topWall-1, topSmall, topSmall), at(topWall, 0, 0), 1)
	wantReads(t, p, at(topWall-1, topSmall, topSmall), api.Span{}, "a=1")
	wantNotRead(t, p, at(topWall-1, topSmall, topSmall-1), api.ErrOld)
	wantNotRead(t, p, at(topWall, 0, 0), api.ErrEarly)

	for _, n := range []int{maxWrites, maxWrites + 1, maxPairs, maxPairs + 1, 1200} {
		var pairs []string
		for _, v := range numbered(n, at(5, 0, 0)) {
			pairs = append(pairs, v.Key+"="+v.Value)
		}
		p = loaded(t, backupOf(t, at(5, 0, 0), pairs...))
		wantStands(t, "many pairs", p, at(5, 0, 0), at(5, 0, 1), n)
		wantSaves(t, p, at(5, 0, 0), pairs...)
	}

	longKey, longValue := strings.Repeat("\xff", maxKey), strings.Repeat("\x00", maxValue)
	p = loaded(t, backupOf(t, at(5, 0, 0), "\x00=", longKey+"="+longValue))
	wantReads(t, p, at(5, 0, 0), api.Span{}, "\x00=", longKey+"="+longValue)
}

// P23.2, P23.4: what stands in a backup is under a key's later changes, and its stamp is no more open to a Feed.
func TestALoadedReplicaIsFed(t *testing.T) {
	p := loaded(t, backupOf(t, at(5, 0, 2), "a=1", "b=2"))
	wantFeed(t, p, api.ErrOrder, at(6, 0, 0), put("c", "1", at(5, 0, 2)))
	wantFeed(t, p, api.OK, at(6, 0, 0), put("a", "3", at(5, 0, 3)), deleted("b", at(5, 0, 3)))
	wantReads(t, p, at(5, 0, 2), api.Span{}, "a=1", "b=2")
	wantReads(t, p, at(5, 0, 3), api.Span{}, "a=3")
	wantStands(t, "behind a Feed", p, at(5, 0, 2), at(6, 0, 0), 4)
}

// P23.3: the three tell what there is, at every step.
func TestBaseBoundAndLen(t *testing.T) {
	p := New()
	wantFeed(t, p, api.OK, at(3, 0, 0))
	wantStands(t, "an empty Feed", p, at(0, 0, 0), at(3, 0, 0), 0)
	wantFeed(t, p, api.OK, at(5, 0, 0), put("a", "1", at(3, 0, 0)), deleted("b", at(4, 0, 0)))
	wantStands(t, "a put and a deletion", p, at(0, 0, 0), at(5, 0, 0), 2)
	wantFeed(t, p, api.OK, at(6, 0, 0), put("a", "1", at(5, 0, 0)))
	wantStands(t, "the same again, later", p, at(0, 0, 0), at(6, 0, 0), 3)
	wantTrim(t, p, at(1, 0, 0), 0, api.OK)
	wantStands(t, "a Trim of nothing", p, at(1, 0, 0), at(6, 0, 0), 3)
	wantTrim(t, p, at(5, 9, 0), 2, api.OK)
	wantStands(t, "a Trim", p, at(5, 9, 0), at(6, 0, 0), 1)
}

// A Replica that neither New nor Load made is as New's.
func TestTheZeroReplica(t *testing.T) {
	var p Replica
	wantStands(t, "zero", &p, at(0, 0, 0), at(0, 0, 0), 0)
	wantFeed(t, &p, api.OK, at(2, 0, 0), put("a", "1", at(1, 0, 0)))
	wantReads(t, &p, at(1, 0, 0), api.Span{}, "a=1")
	wantTrim(t, &p, at(1, 0, 0), 0, api.OK)
	wantSaves(t, &p, at(1, 9, 0), "a=1")
}

// P23.6: the errors in their order, the limit of pairs, and spans of any kind.
func TestRead(t *testing.T) {
	p := grown(t)
	wantTrim(t, p, at(6, 0, 0), 0, api.OK)
	for s, want := range map[api.Stamp]api.Errno{
		at(0, 0, 0):                     api.ErrOld,
		at(5, topSmall, topSmall):       api.ErrOld,
		at(9, 0, 0):                     api.ErrEarly,
		at(9, 0, 1):                     api.ErrEarly,
		at(topWall, topSmall, topSmall): api.ErrEarly,
	} {
		wantNotRead(t, p, s, want)
	}
	wantReads(t, p, at(6, 0, 0), api.Span{}, "a=1", "b=")
	wantReads(t, p, at(8, topSmall, topSmall), api.Span{}, "b=", "c=1")
	for span, want := range map[api.Span]string{
		{}:                   "a=2 b= c=1",
		{Lo: "a", Hi: "c"}:   "a=2 b=",
		{Lo: "a\x00"}:        "b= c=1",
		{Lo: "b", Hi: "b"}:   "",
		{Lo: "c", Hi: "a"}:   "",
		{Lo: "c"}:            "c=1",
		{Hi: "a"}:            "",
		{Hi: "a\x00"}:        "a=2",
		{Lo: "d", Hi: "zzz"}: "",
		{Lo: strings.Repeat("a", 100), Hi: strings.Repeat("b", 100)}: "b=",
	} {
		wantReads(t, p, at(7, 0, 0), span, strings.Fields(want)...)
	}
}

// P23.6: MaxPairs may be answered, one more not; what has no value at the stamp does not count.
func TestReadOfMany(t *testing.T) {
	p := New()
	list := numbered(maxPairs+1, at(3, 0, 0))
	last := list[maxPairs]
	wantFeed(t, p, api.OK, at(5, 0, 0), append(list[:maxPairs:maxPairs], put(last.Key, "x", at(4, 0, 0)))...)
	if pairs, e := p.Read(api.Span{}, at(3, 0, 0)); len(pairs) != maxPairs || e != api.OK {
		t.Errorf("as many as may be: %d, %d", len(pairs), e)
	}
	wantNotRead(t, p, at(4, 0, 0), api.ErrMany)
	if pairs, e := p.Read(api.Span{Hi: last.Key}, at(4, 0, 0)); len(pairs) != maxPairs || e != api.OK {
		t.Errorf("as many as may be, in a span: %d, %d", len(pairs), e)
	}
	wantNotRead(t, p, at(5, 0, 0), api.ErrEarly)
	wantFeed(t, p, api.OK, at(6, 0, 0), deleted(list[7].Key, at(5, 0, 0)))
	if pairs, e := p.Read(api.Span{}, at(5, 0, 0)); len(pairs) != maxPairs || e != api.OK {
		t.Errorf("behind a deletion: %d, %d", len(pairs), e)
	}
	wantTrim(t, p, at(5, 0, 0), 2, api.OK)
	wantNotRead(t, p, at(4, 0, 0), api.ErrOld)
}

// P23.7: the errors in their order; of each key what the new base sees stays, but for a tombstone, and what is above it.
func TestTrim(t *testing.T) {
	p := New()
	wantTrim(t, p, at(0, 0, 0), 0, api.ErrOld)
	wantTrim(t, p, at(0, 0, 1), 0, api.ErrEarly)
	wantFeed(t, p, api.OK, at(9, 0, 0),
		put("a", "1", at(1, 0, 0)), put("b", "1", at(1, 0, 0)), put("e", "1", at(1, 0, 0)),
		put("a", "2", at(2, 0, 0)), deleted("b", at(2, 0, 0)),
		deleted("d", at(3, 0, 0)),
		put("a", "3", at(4, 0, 0)), put("b", "2", at(4, 0, 0)), put("c", "1", at(4, 0, 0)), deleted("e", at(4, 0, 0)))
	wantTrim(t, p, at(9, 0, 0), 0, api.ErrEarly)
	wantTrim(t, p, at(topWall, 0, 0), 0, api.ErrEarly)
	wantStands(t, "refused Trims", p, at(0, 0, 0), at(9, 0, 0), 10)
	wantTrim(t, p, at(3, 0, 0), 4, api.OK) // a at 1, b at 1 and 2, d at 3
	wantStands(t, "a Trim", p, at(3, 0, 0), at(9, 0, 0), 6)
	wantReads(t, p, at(3, 0, 0), api.Span{}, "a=2", "e=1")
	wantReads(t, p, at(4, 0, 0), api.Span{}, "a=3", "b=2", "c=1")
	wantNotRead(t, p, at(2, topSmall, topSmall), api.ErrOld)
	wantTrim(t, p, at(3, 0, 0), 0, api.ErrOld)
	wantTrim(t, p, at(2, 0, 0), 0, api.ErrOld)
	wantTrim(t, p, at(3, 0, 1), 0, api.OK)
	wantTrim(t, p, at(8, topSmall, topSmall), 3, api.OK) // a at 2, both of e
	wantStands(t, "just below the bound", p, at(8, topSmall, topSmall), at(9, 0, 0), 3)
	wantReads(t, p, at(8, topSmall, topSmall), api.Span{}, "a=3", "b=2", "c=1")
	wantFeed(t, p, api.OK, at(10, 0, 0), put("e", "2", at(9, 0, 0)))
	wantReads(t, p, at(9, 0, 0), api.Span{}, "a=3", "b=2", "c=1", "e=2")
}

// P23.7: the base may be a stamp that is not usable, if the bound is above it.
func TestTrimAtTheTop(t *testing.T) {
	p := New()
	wantFeed(t, p, api.OK, at(topWall, 5, 0), put("a", "1", at(1, 0, 0)), put("a", "2", at(topWall-1, topSmall, topSmall)))
	wantTrim(t, p, at(topWall, 5, 0), 0, api.ErrEarly)
	wantTrim(t, p, at(topWall, 4, 9), 1, api.OK)
	wantReads(t, p, at(topWall, 4, 9), api.Span{}, "a=2")
	wantNotRead(t, p, at(topWall, 4, 8), api.ErrOld)
	wantNotSaved(t, p, at(topWall, 4, 8), api.ErrOld)
	wantNotSaved(t, p, at(topWall, 5, 0), api.ErrEarly)
	wantNotSaved(t, p, at(topWall, 4, 9), api.ErrArg)
}

// P23.8: the errors in their order; a backup of any number of pairs, which loads again.
func TestSave(t *testing.T) {
	p := grown(t)
	wantNotSaved(t, New(), at(0, 0, 0), api.ErrEarly)
	wantNotSaved(t, New(), at(topWall, 0, 0), api.ErrEarly)
	wantNotSaved(t, p, at(5, 0, 1), api.ErrOld)
	wantNotSaved(t, p, at(topWall, 0, 0), api.ErrEarly)
	wantSaves(t, p, at(5, 0, 2), "a=1", "b=")
	wantSaves(t, p, at(8, topSmall, topSmall), "b=", "c=1")

	wantFeed(t, p, api.OK, at(topWall, 1, 0), numbered(1500, at(10, 0, 0))...)
	wantNotSaved(t, p, at(topWall, 0, 0), api.ErrArg)
	wantNotSaved(t, p, at(topWall, 1, 0), api.ErrEarly)
	last := at(topWall-1, topSmall, topSmall)
	text, e := p.Save(last)
	if e != api.OK {
		t.Fatalf("Save of many: %d", e)
	}
	q := loaded(t, text)
	wantStands(t, "Load of Save", q, last, at(topWall, 0, 0), 1502)
	wantReads(t, q, last, api.Span{Hi: "k100001"}, "b=", "c=1", "k100000=0")
	if again, e := q.Save(last); again != text || e != api.OK {
		t.Errorf("Save of Load of Save: %d, %d bytes, want %d", e, len(again), len(text))
	}
}

// P23.8: what is saved of a replica that was trimmed and one that was not is the same.
func TestSaveOfATrimmedOne(t *testing.T) {
	p, q := grown(t), grown(t)
	wantTrim(t, p, at(7, 0, 0), 1, api.OK)
	for _, s := range []api.Stamp{at(7, 0, 0), at(7, 9, 9), at(8, 0, 0), at(8, 0, 1)} {
		one, e := p.Save(s)
		two, f := q.Save(s)
		if one != two || e != api.OK || f != api.OK {
			t.Errorf("at %v: %q, %d and %q, %d", s, one, e, two, f)
		}
	}
	if slices.Equal(p.pairs(at(7, 0, 0)), p.pairs(at(8, 0, 0))) {
		t.Error("the stamps tell nothing apart")
	}
}
