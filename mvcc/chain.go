package mvcc

import (
	"slices"
	"sort"

	"tidemark/api"
	"tidemark/stamp"
)

// chain is the versions of one key, one at least, their stamps rising.
type chain []api.Version

// last tells the stamp of the newest version.
func (c chain) last() api.Stamp { return c[len(c)-1].At }

// upTo counts the versions at or below a stamp: the last of so many is the newest at that stamp.
func (c chain) upTo(at api.Stamp) int {
	return sort.Search(len(c), func(i int) bool { return stamp.Less(at, c[i].At) })
}

// value tells the key's value at a stamp, if it has one there.
func (c chain) value(at api.Stamp) (string, bool) {
	n := c.upTo(at)
	if n == 0 || c[n-1].Delete {
		return "", false
	}
	return c[n-1].Value, true
}

// unseen counts the versions that no read at or above a mark needs: those ahead of the newest at the mark, and that one if it is a tombstone, as a key without versions reads the same.
func (c chain) unseen(mark api.Stamp) int {
	n := c.upTo(mark)
	if n == 0 || c[n-1].Delete {
		return n
	}
	return n - 1
}

// without is the chain without its n oldest versions, in memory of its own: cut alone, it would hold on to what went.
func (c chain) without(n int) chain { return slices.Clone(c[n:]) }
