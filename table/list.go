package table

import (
	"sort"

	"tidemark/api"
)

// rise tells whether the keys of pairs rise strictly. The first may be the empty text.
func rise(pairs []api.Pair) bool {
	for i := 1; i < len(pairs); i++ {
		if pairs[i].Key <= pairs[i-1].Key {
			return false
		}
	}
	return true
}

// from gives the place of the first of rising pairs whose key is not below a text.
func from(pairs []api.Pair, text string) int {
	return sort.Search(len(pairs), func(i int) bool { return pairs[i].Key >= text })
}

// inside gives those of rising pairs whose keys are inside a span that has an end.
func inside(pairs []api.Pair, s api.Span) []api.Pair {
	return pairs[from(pairs, s.Lo):from(pairs, s.Hi)]
}

// at gives the one of rising pairs that has a key.
func at(pairs []api.Pair, key string) (p api.Pair, there bool) {
	i := from(pairs, key)
	if i == len(pairs) || pairs[i].Key != key {
		return api.Pair{}, false
	}
	return pairs[i], true
}
