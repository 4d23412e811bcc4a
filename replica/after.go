package replica

import (
	"math"

	"tidemark/api"
)

// After tells the least stamp above s, and s itself if there is none (P23.1).
func After(s api.Stamp) api.Stamp {
	switch {
	case s.Node < math.MaxUint32:
		return api.Stamp{Wall: s.Wall, Logical: s.Logical, Node: s.Node + 1}
	case s.Logical < api.TopLogical:
		return api.Stamp{Wall: s.Wall, Logical: s.Logical + 1}
	case s.Wall < api.TopWall:
		return api.Stamp{Wall: s.Wall + 1}
	}
	return s
}
