package replica

import (
	"slices"
	"strings"
	"testing"

	"tidemark/api"
)

// P23.4: a bound that falls is told ahead of all faults of the changes.
func TestFeedToALowerBound(t *testing.T) {
	for _, list := range [][]api.Version{nil, {}, changes(put("a", "1", at(9, 0, 0))), changes(put("", "1", at(9, 0, 0))), changes(put("a", "1", at(topWall, 0, 0)))} {
		for _, bound := range []api.Stamp{{}, at(8, 9, 9), at(8, topSmall, topSmall)} {
			wantFeed(t, grown(t), api.ErrOrder, bound, list...)
		}
	}
	p := loaded(t, backupOf(t, at(5, 3, 2)))
	wantFeed(t, p, api.ErrOrder, at(5, 3, 2))
	wantFeed(t, p, api.ErrOrder, at(5, 2, 9))
	wantFeed(t, p, api.ErrOrder, at(4, 9, 9))
	wantFeed(t, p, api.OK, at(5, 3, 3))
}

// P23.4: at the bound that the replica has there is room for no change.
func TestFeedAtTheSameBound(t *testing.T) {
	p := grown(t)
	wantFeed(t, p, api.OK, at(9, 0, 0))
	for _, s := range []api.Stamp{{}, at(8, 9, 9), at(9, 0, 0), at(9, 0, 1), at(99, 0, 0)} {
		wantFeed(t, p, api.ErrOrder, at(9, 0, 0), put("a", "1", s))
	}
	wantFeed(t, p, api.ErrArg, at(9, 0, 0), put("", "1", at(9, 0, 0)))
	wantStands(t, "behind them", p, at(5, 0, 2), at(9, 0, 0), 5)
}

// fine are two changes that a replica of the examples takes, of the keys x and y, at 9.0.0 and at 10.0.0.
func fine() []api.Version {
	return changes(put("x", "1", at(9, 0, 0)), put("y", "1", at(10, 0, 0)))
}

// wantFault holds a Feed of some changes, behind none, one or two fine ones and ahead of none or one, to an error; and the replica to what it was.
func wantFault(t *testing.T, want api.Errno, list ...api.Version) {
	t.Helper()
	p := grown(t)
	for _, ahead := range [][]api.Version{{}, fine()[:1], fine()} {
		for _, behind := range [][]api.Version{{}, changes(put("z", "1", at(11, 0, 0)))} {
			wantFeed(t, p, want, at(12, 0, 0), slices.Concat(ahead, list, behind)...)
		}
	}
	wantStands(t, "behind refused Feeds", p, at(5, 0, 2), at(9, 0, 0), 5)
	wantFeed(t, p, api.OK, at(12, 0, 0), fine()...)
	wantReads(t, p, at(11, 0, 0), api.Span{}, "b=", "c=1", "x=1", "y=1")
}

// P23.4: what is no good version is ErrArg, wherever its stamp is.
func TestFeedOfWhatIsNotGood(t *testing.T) {
	for _, s := range []api.Stamp{{}, at(8, 0, 0), at(10, 0, 0), at(12, 0, 0), at(99, 0, 0), at(topWall, 0, 0)} {
		wantFault(t, api.ErrArg, put("", "1", s))
		wantFault(t, api.ErrArg, deleted("", s))
		wantFault(t, api.ErrArg, put(strings.Repeat("k", maxKey+1), "1", s))
		wantFault(t, api.ErrArg, put("z", strings.Repeat("v", maxValue+1), s))
		wantFault(t, api.ErrArg, api.Version{Key: "z", At: s, Delete: true, Value: "x"})
	}
	wantFault(t, api.ErrArg, put("z", "1", at(topWall, 0, 0)))
	wantFault(t, api.ErrArg, put("z", "1", at(topWall, topSmall, topSmall)))
	p := grown(t)
	wantFeed(t, p, api.ErrArg, at(topWall, 9, 0), put("z", "1", at(topWall, 5, 0)))
	wantFeed(t, p, api.OK, at(topWall, 9, 0), put("z", "1", at(topWall-1, topSmall, topSmall)))
}

// P23.4: the edges of what is good.
func TestFeedOfWhatIsJustGood(t *testing.T) {
	p := New()
	longKey, longValue := strings.Repeat("\xff", maxKey), strings.Repeat("\xff", maxValue)
	wantFeed(t, p, api.OK, at(1, 0, 0), put("\x00", "", at(0, 0, 0)), put("\x00\x00", "1", at(0, 0, 0)), put(longKey, longValue, at(0, 0, 0)))
	wantReads(t, p, at(0, 0, 0), api.Span{}, "\x00=", "\x00\x00=1", longKey+"="+longValue)
	wantFeed(t, p, api.OK, at(2, 0, 0), deleted(longKey, at(1, 0, 0)), deleted("never there", at(1, 9, 9)))
	wantReads(t, p, at(1, 9, 9), api.Span{}, "\x00=", "\x00\x00=1")
	wantStands(t, "in all", p, at(0, 0, 0), at(2, 0, 0), 5)
}

// P23.4: a stamp below the replica's bound, one not below the new one, one below the stamp ahead, one key twice or keys that fall at one stamp.
func TestFeedOutOfOrder(t *testing.T) {
	for _, s := range []api.Stamp{{}, at(5, 0, 2), at(8, 0, 0), at(8, topSmall, topSmall), at(12, 0, 0), at(12, 0, 1), at(topWall-1, 0, 0)} {
		wantFault(t, api.ErrOrder, put("z", "1", s))
		wantFault(t, api.ErrOrder, deleted("z", s))
	}
	wantFault(t, api.ErrOrder, put("z", "1", at(10, 5, 5)), put("z", "2", at(10, 5, 4)))
	wantFault(t, api.ErrOrder, put("z", "1", at(10, 5, 5)), put("zz", "2", at(10, 4, 9)))
	wantFault(t, api.ErrOrder, put("z", "1", at(10, 5, 5)), put("zz", "2", at(9, 9, 9)))
	wantFault(t, api.ErrOrder, put("z", "1", at(10, 5, 5)), put("z", "2", at(10, 5, 5)))
	wantFault(t, api.ErrOrder, put("z", "1", at(10, 5, 5)), deleted("z", at(10, 5, 5)))
	wantFault(t, api.ErrOrder, put("z", "1", at(10, 5, 5)), put("y", "1", at(10, 5, 5)))
	wantFault(t, api.ErrOrder, put("z", "1", at(10, 5, 5)), put("zz", "1", at(10, 5, 5)), put("z\xff", "1", at(10, 5, 5)), put("zz", "1", at(10, 5, 5)))
	wantFault(t, api.ErrOrder, put("z", "1", at(10, 5, 5)), put("z", "1", at(10, 6, 0)), put("y", "1", at(10, 5, 5)))
}

// P23.4: the first change that has a fault decides, whatever is behind it.
func TestFeedsFirstFault(t *testing.T) {
	old, bad, top := put("z", "1", at(8, 0, 0)), put("", "1", at(10, 0, 0)), put("z", "1", at(topWall, 0, 0))
	wantFault(t, api.ErrOrder, old, bad)
	wantFault(t, api.ErrArg, bad, old)
	wantFault(t, api.ErrArg, top, old)
	wantFault(t, api.ErrOrder, put("z", "1", at(12, 0, 0)), top)
	wantFault(t, api.ErrOrder, put("z", "1", at(10, 1, 0)), put("y", "1", at(10, 1, 0)), put("", "1", at(10, 1, 0)))
	wantFault(t, api.ErrArg, put("z", "1", at(10, 1, 0)), put("", "1", at(10, 1, 0)), put("y", "1", at(10, 1, 0)))
	wantFault(t, api.ErrArg, put("", "1", at(8, 0, 0)), put("z", "1", at(8, 0, 0)))
	wantFault(t, api.ErrOrder, put("z", "1", at(8, 0, 0)), put("", "1", at(8, 0, 0)))
}

// P23.4: more changes at one stamp than a transaction writes; none of them is taken if the last one has a fault.
func TestFeedOfManyAtOneStamp(t *testing.T) {
	for _, n := range []int{1, maxWrites - 1, maxWrites, maxWrites + 1, 2 * maxWrites, 2*maxWrites + 1, maxPairs, 3 * maxPairs} {
		p := grown(t)
		list := numbered(n, at(10, 0, 0))
		wantFeed(t, p, api.ErrOrder, at(12, 0, 0), append(slices.Clone(list), list[n-1])...)
		wantFeed(t, p, api.ErrArg, at(12, 0, 0), append(slices.Clone(list), put("", "", at(10, 0, 0)))...)
		wantStands(t, "refused", p, at(5, 0, 2), at(9, 0, 0), 5)
		wantFeed(t, p, api.OK, at(12, 0, 0), append(slices.Clone(list), put("a", "9", at(11, 0, 0)))...)
		wantStands(t, "taken", p, at(5, 0, 2), at(12, 0, 0), 6+n)
		last := list[n-1]
		wantReads(t, p, at(10, 0, 0), api.Span{Lo: last.Key}, last.Key+"="+last.Value)
		wantReads(t, p, at(9, topSmall, topSmall), api.Span{}, "b=", "c=1")
		wantReads(t, p, at(11, 0, 0), api.Span{Hi: "k"}, "a=9", "b=", "c=1")
	}
}

// P23.4: what a key has had does not stand in the way of what comes: a Feed in many pieces is one in one piece.
func TestFeedInPieces(t *testing.T) {
	var list []api.Version
	for wall := range uint64(40) {
		list = append(list, put("a", strings.Repeat("x", int(wall)), at(wall, 0, 0)))
		if wall%3 == 0 {
			list = append(list, deleted("b", at(wall, 0, 0)), put("c", "", at(wall, 0, 0)))
		}
	}
	whole, pieces := New(), New()
	wantFeed(t, whole, api.OK, at(40, 0, 0), list...)
	for wall := range uint64(40) {
		var now []api.Version
		for _, v := range list {
			if v.At.Wall == wall {
				now = append(now, v)
			}
		}
		wantFeed(t, pieces, api.OK, at(wall+1, 0, 0), now...)
	}
	wantStands(t, "pieces", pieces, at(0, 0, 0), at(40, 0, 0), whole.Len())
	for wall := range uint64(40) {
		one, _ := whole.Save(at(wall, 5, 0))
		two, _ := pieces.Save(at(wall, 5, 0))
		if one == "" || one != two {
			t.Errorf("at %d: %q and %q", wall, one, two)
		}
	}
}
