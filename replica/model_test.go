package replica

import (
	"maps"
	"math/big"
	"slices"
	"strings"

	"tidemark/api"
	"tidemark/backup"
)

// rank is a stamp as one number: the chapter's order is that of these.
func rank(s api.Stamp) *big.Int {
	n := new(big.Int).SetUint64(s.Wall)
	n.Lsh(n, 32).Add(n, big.NewInt(int64(s.Logical)))
	return n.Lsh(n, 32).Add(n, big.NewInt(int64(s.Node)))
}

// stampOf is the stamp of a number.
func stampOf(n *big.Int) api.Stamp {
	low := new(big.Int).And(n, big.NewInt(topSmall))
	high := new(big.Int).And(new(big.Int).Rsh(n, 32), big.NewInt(topSmall))
	return api.Stamp{Wall: new(big.Int).Rsh(n, 64).Uint64(), Logical: uint32(high.Uint64()), Node: uint32(low.Uint64())}
}

func below(a, b api.Stamp) bool { return rank(a).Cmp(rank(b)) < 0 }

// modelAfter is P23.1 by numbers.
func modelAfter(s api.Stamp) api.Stamp {
	if s == at(topWall, topSmall, topSmall) {
		return s
	}
	return stampOf(new(big.Int).Add(rank(s), big.NewInt(1)))
}

// model is a replica as the chapter tells it: all that was fed, looked through at every call.
type model struct {
	base, bound api.Stamp
	list        []api.Version
}

func modelLoad(text string) (*model, api.Errno) {
	s, pairs, e := backup.Read(text)
	if e != api.OK {
		return nil, api.ErrBackup
	}
	m := &model{base: s, bound: modelAfter(s)}
	for _, p := range pairs {
		m.list = append(m.list, put(p.Key, p.Value, s))
	}
	return m, api.OK
}

func modelGood(v api.Version) bool {
	return len(v.Key) >= 1 && len(v.Key) <= maxKey && len(v.Value) <= maxValue && !(v.Delete && v.Value != "") && v.At.Wall != topWall
}

// feed is P23.4; beside the answer, why.
func (m *model) feed(list []api.Version, bound api.Stamp) (api.Errno, string) {
	if below(bound, m.bound) {
		return api.ErrOrder, "the bound falls"
	}
	for i, v := range list {
		switch {
		case !modelGood(v):
			return api.ErrArg, "not good"
		case below(v.At, m.bound):
			return api.ErrOrder, "below the bound"
		case !below(v.At, bound):
			return api.ErrOrder, "not below the new bound"
		case i > 0 && below(v.At, list[i-1].At):
			return api.ErrOrder, "below the one ahead"
		case i > 0 && v.At == list[i-1].At && v.Key <= list[i-1].Key:
			return api.ErrOrder, "keys fall"
		}
	}
	m.list = append(m.list, list...)
	m.bound = bound
	return api.OK, "fed"
}

// newest is the place of a key's version with the greatest stamp at or below a stamp, -1 if there is none.
func (m *model) newest(key string, s api.Stamp) int {
	place := -1
	for i, v := range m.list {
		if v.Key == key && !below(s, v.At) && (place < 0 || below(m.list[place].At, v.At)) {
			place = i
		}
	}
	return place
}

func (m *model) keys() []string {
	keys := map[string]bool{}
	for _, v := range m.list {
		keys[v.Key] = true
	}
	return slices.Sorted(maps.Keys(keys))
}

// pairs are those of a span at a stamp, however many.
func (m *model) pairs(span api.Span, s api.Stamp) []api.Pair {
	var list []api.Pair
	for _, key := range m.keys() {
		if key < span.Lo || span.Hi != "" && key >= span.Hi {
			continue
		}
		if place := m.newest(key, s); place >= 0 && !m.list[place].Delete {
			list = append(list, api.Pair{Key: key, Value: m.list[place].Value})
		}
	}
	return list
}

// read is P23.6.
func (m *model) read(span api.Span, s api.Stamp) ([]api.Pair, api.Errno) {
	if below(s, m.base) {
		return nil, api.ErrOld
	}
	if !below(s, m.bound) {
		return nil, api.ErrEarly
	}
	list := m.pairs(span, s)
	if len(list) > maxPairs {
		return nil, api.ErrMany
	}
	return list, api.OK
}

// trim is P23.7.
func (m *model) trim(base api.Stamp) (int, api.Errno) {
	if !below(m.base, base) {
		return 0, api.ErrOld
	}
	if !below(base, m.bound) {
		return 0, api.ErrEarly
	}
	var kept []api.Version
	for i, v := range m.list {
		if below(base, v.At) || m.newest(v.Key, base) == i && !v.Delete {
			kept = append(kept, v)
		}
	}
	gone := len(m.list) - len(kept)
	m.base, m.list = base, kept
	return gone, api.OK
}

// save is P23.8.
func (m *model) save(s api.Stamp) (string, api.Errno) {
	if below(s, m.base) {
		return "", api.ErrOld
	}
	if !below(s, m.bound) {
		return "", api.ErrEarly
	}
	if s.Wall == topWall {
		return "", api.ErrArg
	}
	return backup.Write(s, m.pairs(api.Span{}, s))
}

// stamps are all that matter to the model.
func (m *model) stamps() []api.Stamp {
	list := []api.Stamp{m.base, m.bound}
	for _, v := range m.list {
		list = append(list, v.At)
	}
	return list
}

// sorted brings changes into their order, and takes out what stands there twice.
func sorted(list []api.Version) []api.Version {
	slices.SortStableFunc(list, func(a, b api.Version) int {
		if c := rank(a.At).Cmp(rank(b.At)); c != 0 {
			return c
		}
		return strings.Compare(a.Key, b.Key)
	})
	return slices.CompactFunc(list, func(a, b api.Version) bool { return a.At == b.At && a.Key == b.Key })
}
