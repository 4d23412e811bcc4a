package clock

import "tidemark/api"

// guard is the part of a clock that watches over the ceiling. It knows nothing of time: only which walls are safe to use.
type guard struct {
	window  uint64
	ceiling uint64
}

// Need tells the ceiling that must be reserved ahead of using s, and whether one must (P2.6).
func (g *guard) Need(s api.Stamp) (uint64, bool) {
	if s.Wall == api.TopWall || s.Wall < g.ceiling {
		return 0, false
	}
	least := s.Wall + 1
	return least + min(g.window, api.TopWall-least), true // cut down ahead of adding, so that the sum can't wrap round
}

// Reserve takes in a ceiling that the log holds (P2.7).
func (g *guard) Reserve(ceiling uint64) { g.ceiling = max(g.ceiling, ceiling) }

// Ceiling tells the ceiling (P2.5).
func (g *guard) Ceiling() uint64 { return g.ceiling }
