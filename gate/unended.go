package gate

import "tidemark/api"

// unended is a line whose end has not come. A line that fills the room is too long with a 0d at its end and without it, whatever follows: so the rest is let go (P21.12).
type unended struct {
	room [api.MaxLine + 2]byte
	kept int
}

// add takes bytes of the line, as many as there is room for.
func (u *unended) add(piece string) { u.kept += copy(u.room[u.kept:], piece) }

// take gives the line when it ends, and begins the next one.
func (u *unended) take() string {
	line := string(u.room[:u.kept])
	u.kept = 0
	return line
}
