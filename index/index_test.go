package index

import (
	"iter"
	"math/rand"
	"slices"
	"strings"
	"testing"

	"tidemark/api"
)

// entry is what an iterator yields.
type entry struct {
	key string
	v   int
}

var whole = api.Span{}

// someKeys have the edges of the order by bytes: the empty text, beginnings of one another, the least and the greatest byte, bytes that are no UTF-8.
var someKeys = []string{"", "\x00", "\x00\x00", "a", "a\x00", "a\x00\x00", "aa", "ab", "b", "b\x00", "\x7f", "\x80", "é", "\xfe\xff", "\xff", "\xff\xff", strings.Repeat("k", 5000), strings.Repeat("k", 5000) + "\x00"}

func in(k string, s api.Span) bool { return s.Lo <= k && (s.Hi == "" || k < s.Hi) }

// found is a key with its value, if there is one.
type found struct {
	entry
	there bool
}

func wantFound(t *testing.T, what string, got, want found) {
	t.Helper()
	if got != want {
		t.Errorf("%s = %q, %d, %v, want %q, %d, %v", what, got.key, got.v, got.there, want.key, want.v, want.there)
	}
}

func wantSet(t *testing.T, x *Index[int], key string, v int, want bool) {
	t.Helper()
	if got := x.Set(key, v); got != want {
		t.Errorf("Set(%q, %d) = %v, want %v", key, v, got, want)
	}
}

func wantGet(t *testing.T, x *Index[int], key string, v int, want bool) {
	t.Helper()
	if got, there := x.Get(key); got != v || there != want {
		t.Errorf("Get(%q) = %d, %v, want %d, %v", key, got, there, v, want)
	}
}

func wantDelete(t *testing.T, x *Index[int], key string, want bool) {
	t.Helper()
	if got := x.Delete(key); got != want {
		t.Errorf("Delete(%q) = %v, want %v", key, got, want)
	}
}

func wantLen(t *testing.T, x *Index[int], want int) {
	t.Helper()
	if got := x.Len(); got != want {
		t.Errorf("Len() = %d, want %d", got, want)
	}
}

func wantFloor(t *testing.T, x *Index[int], key, k string, v int, want bool) {
	t.Helper()
	gotKey, gotV, there := x.Floor(key)
	wantFound(t, "Floor("+key+")", found{entry{gotKey, gotV}, there}, found{entry{k, v}, want})
}

func wantCeil(t *testing.T, x *Index[int], key, k string, v int, want bool) {
	t.Helper()
	gotKey, gotV, there := x.Ceil(key)
	wantFound(t, "Ceil("+key+")", found{entry{gotKey, gotV}, there}, found{entry{k, v}, want})
}

func wantKeys(t *testing.T, x *Index[int], s api.Span, want ...string) {
	t.Helper()
	if got := x.Keys(s); !slices.Equal(got, want) {
		t.Errorf("Keys(%q) = %q, want %q", s, got, want)
	}
}

// gathered is what an iterator yields till its end.
func gathered(all iter.Seq2[string, int]) []entry {
	var list []entry
	for k, v := range all {
		list = append(list, entry{k, v})
	}
	return list
}

func wantEntries(t *testing.T, what string, all iter.Seq2[string, int], want ...entry) {
	t.Helper()
	if got := gathered(all); !slices.Equal(got, want) {
		t.Errorf("%s yields %v, want %v", what, got, want)
	}
}

// example is the index of the chapter's table.
func example(t *testing.T) *Index[int] {
	t.Helper()
	x := New[int]()
	wantSet(t, x, "b", 2, true)
	wantSet(t, x, "d", 4, true)
	wantSet(t, x, "a", 1, true)
	wantSet(t, x, "", 0, true)
	wantSet(t, x, "d", 5, false)
	return x
}

// P8.1 to P8.9, by the chapter's table.
func TestTheChaptersExamples(t *testing.T) {
	x := example(t)
	wantLen(t, x, 4)
	wantGet(t, x, "d", 5, true)
	wantGet(t, x, "c", 0, false)
	wantFloor(t, x, "c", "b", 2, true)
	wantFloor(t, x, "b", "b", 2, true)
	wantFloor(t, x, "", "", 0, true)
	wantCeil(t, x, "c", "d", 5, true)
	wantCeil(t, x, "e", "", 0, false)
	wantKeys(t, x, whole, "", "a", "b", "d")
	wantKeys(t, x, api.Span{Lo: "a", Hi: "d"}, "a", "b")
	wantKeys(t, x, api.Span{Lo: "a", Hi: "a"})
	wantKeys(t, x, api.Span{Lo: "b", Hi: "a"})
	wantKeys(t, x, api.Span{Lo: "e"})
	wantKeys(t, x, api.Span{Lo: "b", Hi: "b\x00"}, "b")
	wantEntries(t, "Back", x.Back(api.Span{Lo: "a"}), entry{"d", 5}, entry{"b", 2}, entry{"a", 1})
	wantStopped(t, "Range", x.Range(whole), entry{"", 0}, entry{"a", 1})
	r := x.Range(api.Span{Lo: "b"})
	wantDelete(t, x, "d", true)
	wantSet(t, x, "c", 3, true)
	wantEntries(t, "Range of before", r, entry{"b", 2}, entry{"d", 5})
	wantEntries(t, "Range", x.Range(api.Span{Lo: "b"}), entry{"b", 2}, entry{"c", 3})
	digits := func(a int, k string, v int) int { return 10*a + v }
	if got := Fold(x, whole, 0, digits); got != 123 {
		t.Errorf("Fold = %d, want 123", got)
	}
}

// wantStopped stops an iterator at the last of what it should yield till then.
func wantStopped(t *testing.T, what string, all iter.Seq2[string, int], want ...entry) {
	t.Helper()
	var got []entry
	all(func(k string, v int) bool {
		got = append(got, entry{k, v})
		return len(got) != len(want) // one that goes on all the same is seen
	})
	if !slices.Equal(got, want) {
		t.Errorf("%s stopped at the %dth yields %v, want %v", what, len(want), got, want)
	}
}

// P8.1
func TestNewHasNoKey(t *testing.T) {
	x := New[int]()
	wantLen(t, x, 0)
	wantKeys(t, x, whole)
	wantEntries(t, "Range", x.Range(whole))
	wantEntries(t, "Back", x.Back(whole))
	for _, k := range someKeys {
		wantGet(t, x, k, 0, false)
		wantDelete(t, x, k, false)
		wantFloor(t, x, k, "", 0, false)
		wantCeil(t, x, k, "", 0, false)
	}
	wantLen(t, x, 0)
}

// P8.2, P8.3, P8.4, P8.5
func TestOneKeyAtATime(t *testing.T) {
	x := New[int]()
	for i, k := range someKeys {
		wantSet(t, x, k, i, true)
		wantLen(t, x, i+1)
		wantSet(t, x, k, i+100, false)
		wantLen(t, x, i+1)
		wantGet(t, x, k, i+100, true)
	}
	for i, k := range someKeys {
		wantGet(t, x, k, i+100, true)
		wantGet(t, x, k+"?", 0, false)
		wantDelete(t, x, k+"?", false)
	}
	for i, k := range someKeys {
		wantDelete(t, x, k, true)
		wantGet(t, x, k, 0, false)
		wantLen(t, x, len(someKeys)-i-1)
		wantDelete(t, x, k, false)
		wantLen(t, x, len(someKeys)-i-1)
	}
	wantSet(t, x, "a", 7, true)
	wantKeys(t, x, whole, "a")
}

// P8.2: a zero value is a value; one that is set again changes the value alone.
func TestSetOfAZeroValue(t *testing.T) {
	x := New[int]()
	wantSet(t, x, "a", 0, true)
	wantGet(t, x, "a", 0, true)
	wantSet(t, x, "a", 0, false)
	wantSet(t, x, "a", 3, false)
	wantSet(t, x, "a", 0, false)
	wantGet(t, x, "a", 0, true)
	wantLen(t, x, 1)
}

// P8.3, P8.6: V's zero value, of other types than numbers.
func TestZeroValues(t *testing.T) {
	texts, lists, points := New[string](), New[[]byte](), New[*int]()
	texts.Set("m", "x")
	lists.Set("m", []byte("x"))
	points.Set("m", new(int))
	if v, there := texts.Get("n"); v != "" || there {
		t.Errorf("Get = %q, %v", v, there)
	}
	if k, v, there := lists.Floor("l"); k != "" || v != nil || there {
		t.Errorf("Floor = %q, %v, %v", k, v, there)
	}
	if k, v, there := points.Ceil("n"); k != "" || v != nil || there {
		t.Errorf("Ceil = %q, %v, %v", k, v, there)
	}
}

// P8.6
func TestNearestKeys(t *testing.T) {
	x := New[int]()
	for i, k := range []string{"a", "b", "b\x00\x00", "\xff"} {
		x.Set(k, i+1)
	}
	for _, c := range []struct {
		key, floor string
		f          int
		ceil       string
		c          int
	}{
		{"a", "a", 1, "a", 1},
		{"a\x00", "a", 1, "b", 2},
		{"a\xff\xff", "a", 1, "b", 2},
		{"b", "b", 2, "b", 2},
		{"b\x00", "b", 2, "b\x00\x00", 3},
		{"b\x00\x00", "b\x00\x00", 3, "b\x00\x00", 3},
		{"b\x00\x00\x00", "b\x00\x00", 3, "\xff", 4},
		{"\xfe\xff\xff", "b\x00\x00", 3, "\xff", 4},
		{"\xff", "\xff", 4, "\xff", 4},
	} {
		wantFloor(t, x, c.key, c.floor, c.f, true)
		wantCeil(t, x, c.key, c.ceil, c.c, true)
	}
	wantFloor(t, x, "", "", 0, false)
	wantFloor(t, x, "`\xff", "", 0, false)
	wantCeil(t, x, "", "a", 1, true)
	wantCeil(t, x, "\xff\x00", "", 0, false)
	wantFloor(t, x, "\xff\xff\xff", "\xff", 4, true)
}

// P8.7, P8.8: the spans between any two of the keys, valid or not.
func TestEverySpanOfSomeKeys(t *testing.T) {
	x := New[int]()
	var all []entry
	for i, k := range someKeys {
		x.Set(k, i)
		all = append(all, entry{k, i})
	}
	slices.SortFunc(all, func(a, b entry) int { return strings.Compare(a.key, b.key) })
	bounds := append([]string{"\x01", "a\x01", "c", "\xff\xff\xff"}, someKeys...)
	for _, lo := range bounds {
		for _, hi := range bounds {
			wantSpan(t, x, api.Span{Lo: lo, Hi: hi}, all)
		}
	}
}

// wantSpan holds all that goes over a span to a list of all entries, by key rising.
func wantSpan(t *testing.T, x *Index[int], s api.Span, all []entry) {
	t.Helper()
	var want []entry
	var keys []string
	for _, e := range all {
		if in(e.key, s) {
			want = append(want, e)
			keys = append(keys, e.key)
		}
	}
	wantEntries(t, "Range", x.Range(s), want...)
	wantKeys(t, x, s, keys...)
	folded := Fold(x, s, nil, func(a []entry, k string, v int) []entry { return append(a, entry{k, v}) })
	if !slices.Equal(folded, want) {
		t.Errorf("Fold(%q) gathers %v, want %v", s, folded, want)
	}
	slices.Reverse(want)
	wantEntries(t, "Back", x.Back(s), want...)
}

// hundred is an index of the keys 00 .. 99, each with its number as the value.
func hundred() *Index[int] {
	x := New[int]()
	for i := range 100 {
		n := i * 37 % 100
		x.Set(two(n), n)
	}
	return x
}

func two(n int) string { return string([]byte{byte('0' + n/10), byte('0' + n%10)}) }

// numbers are the entries from .. to of hundred, rising or falling.
func numbers(from, to int) []entry {
	var list []entry
	step := 1
	if to < from {
		step = -1
	}
	for n := from; n != to+step; n += step {
		list = append(list, entry{two(n), n})
	}
	return list
}

// P8.7: wherever it is stopped, it yields no more.
func TestStoppedEarly(t *testing.T) {
	x := hundred()
	s := api.Span{Lo: two(10), Hi: two(90)}
	up, down := x.Range(s), x.Back(s)
	for n := 10; n < 90; n++ {
		wantStopped(t, "Range", up, numbers(10, n)...)
		wantStopped(t, "Back", down, numbers(89, n)...)
	}
	wantEntries(t, "Range behind it", up, numbers(10, 89)...)
	wantEntries(t, "Back behind it", down, numbers(89, 10)...)
}

// P8.7: ranged over within itself, and pulled, it begins anew each time.
func TestRangedOverAgain(t *testing.T) {
	x := hundred()
	up := x.Range(api.Span{Lo: two(40), Hi: two(44)})
	for range up {
		wantEntries(t, "Range within its loop", up, numbers(40, 43)...)
	}
	next, stop := iter.Pull2(up)
	next()
	wantEntries(t, "Range beside itself", up, numbers(40, 43)...)
	k, v, there := next()
	wantFound(t, "the second pulled", found{entry{k, v}, there}, found{entry{two(41), 41}, true})
	stop()
}

// P8.7: what is set and deleted later, in the loop's body too, it does not show.
func TestIteratorsStandStill(t *testing.T) {
	x := hundred()
	s := api.Span{Lo: two(20), Hi: two(80)}
	up, down, none := x.Range(s), x.Back(s), x.Range(api.Span{Lo: "x"})
	x.Set(two(50), -1)
	x.Delete(two(30))
	x.Set("45x", -1)
	x.Set("xx", -1)
	i := 20
	for k, v := range up {
		wantFound(t, "the next of Range", found{entry{k, v}, true}, found{entry{two(i), i}, true})
		x.Set(k, -2)
		x.Set(k+"x", -3)
		x.Delete(two(i + 1))
		i++
	}
	if i != 80 {
		t.Errorf("Range ended ahead of %d", i)
	}
	for k := range x.Back(whole) {
		x.Delete(k)
	}
	wantLen(t, x, 0)
	for range 2 {
		wantEntries(t, "Range", up, numbers(20, 79)...)
		wantEntries(t, "Back", down, numbers(79, 20)...)
		wantEntries(t, "Range over nothing", none)
	}
}

// P8.7: it goes over what stood when it was made, not when it is first ranged over.
func TestLoopThatFillsTheIndex(t *testing.T) {
	x := New[int]()
	x.Set("a", 1)
	n := 0
	for k, v := range x.Range(whole) {
		x.Set(k+"a", v+1)
		n++
	}
	if n != 1 {
		t.Errorf("the loop ran %d times, want 1", n)
	}
	wantKeys(t, x, whole, "a", "aa")
}

// P8.8
func TestKeysAreAListOfTheirOwn(t *testing.T) {
	x := hundred()
	a, b := x.Keys(whole), x.Keys(api.Span{Hi: two(3)})
	for i := range a {
		a[i] = "spoilt"
	}
	for i := range cap(b) {
		b[:cap(b)][i] = "spoilt"
	}
	wantKeys(t, x, api.Span{Lo: two(98)}, two(98), two(99))
	wantKeys(t, x, api.Span{Hi: two(3)}, two(0), two(1), two(2))
}

// P8.9: of an answer that is no number, and with each key once.
func TestFoldGoesRising(t *testing.T) {
	x := hundred()
	calls := 0
	spell := func(a string, k string, v int) string {
		calls++
		if two(v) != k {
			t.Errorf("the value of %q is %d", k, v)
		}
		return "(" + a + " " + k + ")"
	}
	if got := Fold(x, api.Span{Lo: two(7), Hi: two(10)}, "from", spell); got != "(((from 07) 08) 09)" || calls != 3 {
		t.Errorf("Fold = %q by %d calls", got, calls)
	}
	if got := Fold(x, api.Span{Lo: two(9), Hi: two(7)}, "from", spell); got != "from" || calls != 3 {
		t.Errorf("Fold over nothing = %q, %d calls", got, calls)
	}
	if got := Fold(nil, whole, "from", spell); got != "from" || calls != 3 {
		t.Errorf("Fold over no index = %q, %d calls", got, calls)
	}
}

// P8.9: f may do to the index what it likes.
func TestFoldStandsStill(t *testing.T) {
	x := hundred()
	all := Fold(x, whole, nil, func(a []entry, k string, v int) []entry {
		for key := range x.Range(whole) {
			x.Delete(key)
		}
		x.Set(k, -1)
		x.Set("z"+k, -1)
		return append(a, entry{k, v})
	})
	if !slices.Equal(all, numbers(0, 99)) {
		t.Errorf("Fold gathers %v", all)
	}
	wantKeys(t, x, whole, two(99), "z"+two(99))
}

// Every query changes nothing.
func TestQueriesChangeNothing(t *testing.T) {
	x := example(t)
	before := *x
	for _, k := range []string{"", "a", "c", "z"} {
		x.Get(k)
		x.Floor(k)
		x.Ceil(k)
		x.Keys(api.Span{Lo: k})
		gathered(x.Range(api.Span{Hi: k}))
		gathered(x.Back(api.Span{Lo: k}))
		Fold(x, api.Span{Lo: k}, 0, func(a int, k string, v int) int { return a + v })
		x.Len()
	}
	if *x != before {
		t.Errorf("a query changed the index")
	}
	wantEntries(t, "Range", x.Range(whole), entry{"", 0}, entry{"a", 1}, entry{"b", 2}, entry{"d", 5})
	wantDelete(t, x, "c", false)
	if *x != before {
		t.Errorf("Delete of a key that is not there changed the index")
	}
}

// A value is held as it was given.
func TestValuesAreNotCopied(t *testing.T) {
	x := New[[]int]()
	list := []int{1, 2, 3}
	x.Set("a", list)
	list[0] = 9
	for _, v := range x.Range(whole) {
		v[1] = 8
	}
	got, _ := x.Get("a")
	if &got[0] != &list[0] || !slices.Equal(got, []int{9, 8, 3}) {
		t.Errorf("the list is %v, want the one that was set, %v", got, list)
	}
}

// Two indexes share nothing.
func TestIndexesAreApart(t *testing.T) {
	x, y := hundred(), hundred()
	for i := range 50 {
		x.Delete(two(i))
		x.Set(two(i+50), -1)
	}
	wantEntries(t, "the other index", y.Range(whole), numbers(0, 99)...)
	wantLen(t, x, 50)
	wantLen(t, y, 100)
}

// P8.1 to P8.9: seeded random lives, held to a map; iterators of earlier times are held to what stood then.
func TestRandomLives(t *testing.T) {
	for seed := range int64(60) {
		r := rand.New(rand.NewSource(seed))
		l := &life{x: New[int](), model: map[string]int{}, r: r, letters: 1 + r.Intn(4), long: 1 + r.Intn(5)}
		for range 400 {
			l.step(t)
		}
		for _, o := range l.old {
			wantEntries(t, "Range of before", o.up, o.want...)
			slices.Reverse(o.want)
			wantEntries(t, "Back of before", o.down, o.want...)
		}
		if t.Failed() {
			t.Fatalf("seed %d", seed)
		}
	}
}

// life is an index with the map that it is held to.
type life struct {
	x             *Index[int]
	model         map[string]int
	r             *rand.Rand
	letters, long int
	old           []older
}

// older is a pair of iterators with what they must go over.
type older struct {
	up, down iter.Seq2[string, int]
	want     []entry
}

func (l *life) text() string {
	b := make([]byte, l.r.Intn(l.long+1))
	for i := range b {
		b[i] = "\x00a\xffb"[l.r.Intn(l.letters)]
	}
	return string(b)
}

func (l *life) all(s api.Span) []entry {
	var list []entry
	for k, v := range l.model {
		if in(k, s) {
			list = append(list, entry{k, v})
		}
	}
	slices.SortFunc(list, func(a, b entry) int { return strings.Compare(a.key, b.key) })
	return list
}

func (l *life) step(t *testing.T) {
	t.Helper()
	key, v := l.text(), l.r.Intn(1000)
	_, there := l.model[key]
	switch l.r.Intn(8) {
	case 0, 1, 2:
		wantSet(t, l.x, key, v, !there)
		l.model[key] = v
	case 3, 4:
		wantDelete(t, l.x, key, there)
		delete(l.model, key)
	case 5:
		wantGet(t, l.x, key, l.model[key], there)
		l.near(t, key)
	case 6:
		wantSpan(t, l.x, api.Span{Lo: key, Hi: l.text()}, l.all(whole))
	case 7:
		s := api.Span{Lo: key, Hi: l.text()}
		l.old = append(l.old, older{l.x.Range(s), l.x.Back(s), l.all(s)})
	}
	wantLen(t, l.x, len(l.model))
}

func (l *life) near(t *testing.T, key string) {
	t.Helper()
	var floor, ceil entry
	below, above := false, false
	for _, e := range l.all(whole) {
		if e.key <= key {
			floor, below = e, true
		}
		if e.key >= key && !above {
			ceil, above = e, true
		}
	}
	wantFloor(t, l.x, key, floor.key, floor.v, below)
	wantCeil(t, l.x, key, ceil.key, ceil.v, above)
}
