package state

import (
	"math"
	"slices"

	"tidemark/api"
	"tidemark/stamp"
)

func (c *content) empty() bool {
	return c.ceiling == 0 && c.versions.Watermark() == api.Stamp{} &&
		c.held.Len() == 0 && c.outcomes.Len() == 0 && c.versions.Len() == 0
}

func (c *content) decided(txn api.Txn) bool {
	_, there := c.outcomes.Outcome(txn)
	return there
}

func (c *content) holds(txn api.Txn) bool {
	_, there := c.held.Get(txn)
	return there
}

// reserved tells whether a stamp is below the ceiling. All such stamps are usable, as no ceiling is above TopWall.
func (c *content) reserved(at api.Stamp) bool { return at.Wall < c.ceiling }

// aboveCommits tells whether a stamp is above that of every commit.
func (c *content) aboveCommits(at api.Stamp) bool {
	return !c.committed || stamp.Less(c.lastCommit, at)
}

// stale tells whether a key inside one of the spans has a version above a stamp.
func (c *content) stale(spans []api.Span, at api.Stamp) bool {
	return slices.ContainsFunc(spans, func(s api.Span) bool { return c.versions.Above(s, at) })
}

// overtaken tells whether a key that a transaction writes has a version at or above its stamp. The store tells what is above a stamp, so it is asked with the one just below; where there is none, all versions are gone over.
func (c *content) overtaken(h api.Held) bool {
	below, there := justBelow(h.At)
	if !there {
		return overtakes(c.versions.Dump(), h)
	}
	return slices.ContainsFunc(h.Writes, func(w api.Write) bool { return c.versions.Above(point(w.Key), below) })
}

// overtakes tells whether one of the versions stands at or above the intent on its key. No two that are held write one key.
func overtakes(versions []api.Version, held ...api.Held) bool {
	intents := map[string]api.Stamp{}
	for _, h := range held {
		for _, w := range h.Writes {
			intents[w.Key] = h.At
		}
	}
	return slices.ContainsFunc(versions, func(v api.Version) bool {
		at, there := intents[v.Key]
		return there && !stamp.Less(v.At, at)
	})
}

func point(key string) api.Span { return api.Span{Lo: key, Hi: key + "\x00"} }

// justBelow tells the greatest stamp below s; false, if s is the least of all.
func justBelow(s api.Stamp) (api.Stamp, bool) {
	switch {
	case s.Node > 0:
		return api.Stamp{Wall: s.Wall, Logical: s.Logical, Node: s.Node - 1}, true
	case s.Logical > 0:
		return api.Stamp{Wall: s.Wall, Logical: s.Logical - 1, Node: math.MaxUint32}, true
	case s.Wall > 0:
		return api.Stamp{Wall: s.Wall - 1, Logical: api.TopLogical, Node: math.MaxUint32}, true
	}
	return api.Stamp{}, false
}

// hold takes what a transaction holds, if the content is sound with it as far as the versions play no part; it tells whether it was taken.
func (c *content) hold(h api.Held) bool {
	if c.decided(h.Txn) || !c.reserved(h.At) {
		return false
	}
	return c.held.Hold(h) == api.OK // it refuses one that is held already, or meets another one
}

// lay lays an outcome down, of a transaction for which none stands.
func (c *content) lay(e api.Entry) {
	c.outcomes.Decide(e)
	if e.Outcome == api.Committed {
		c.committed, c.lastCommit = true, stamp.Max(c.lastCommit, e.At)
	}
}
