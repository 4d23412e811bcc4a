package disk

// slot is a run of bytes of which the first so many are synced.
type slot struct {
	bytes  []byte
	synced int
}

// first hands on the first n bytes with no room behind them: what is added to them goes into new memory, and never over bytes that are kept.
func (s *slot) first(n int) []byte { return s.bytes[:n:n] }

func (s *slot) add(b string) { s.bytes = append(s.bytes, b...) }

func (s *slot) sync() { s.synced = len(s.bytes) }

func (s *slot) cut(n int) {
	s.bytes = s.first(n)
	s.synced = min(s.synced, n)
}

func (s *slot) crash(keep int) {
	unsynced := len(s.bytes) - s.synced
	s.cut(s.synced + min(max(keep, 0), unsynced)) // held down ahead of adding, so that the sum can't wrap round
	s.sync()
}

func (s *slot) clone() slot {
	own := make([]byte, len(s.bytes))
	copy(own, s.bytes)
	return slot{bytes: own, synced: s.synced}
}
