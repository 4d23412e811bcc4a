package table

import (
	"slices"

	"tidemark/api"
)

// Rows gives all rows that pairs make (P26.7).
func Rows(s api.Schema, pairs []api.Pair) ([][]api.Value, api.Errno) {
	if e, _ := Check(s, pairs); e != api.OK {
		return nil, e
	}
	return rowsOf(s, pairs), api.OK
}

// Check tells whether the pairs are just those of some rows, or the least key that is wrong (P26.6, P26.12, P26.13).
func Check(s api.Schema, pairs []api.Pair) (api.Errno, string) {
	if !mayBe(s) {
		return api.ErrSchema, ""
	}
	if !rise(pairs) {
		return api.ErrArg, ""
	}
	if wrong := wrongKeys(s, pairs); len(wrong) > 0 {
		return api.ErrTorn, slices.Min(wrong)
	}
	return api.OK, ""
}

// want is what rows want to stand at a key.
type want struct {
	pair api.Pair
	torn bool // two rows want one there, and unlike ones: the pair tells the row's key
}

// wanted gathers the pairs of all rows that pairs make, by their keys.
func wanted(s api.Schema, pairs []api.Pair) map[string]want {
	wants := map[string]want{}
	for _, row := range rowsOf(s, pairs) {
		own, _ := pairsOf(s, row)
		for _, p := range own {
			_, there := wants[p.Key]
			wants[p.Key] = want{pair: p, torn: there}
		}
	}
	return wants
}

// wrongKeys gives the keys that are wrong, in any order. At one where there is a pair, but not the wanted one, the wanted one is missing.
func wrongKeys(s api.Schema, pairs []api.Pair) []string {
	wants := wanted(s, pairs)
	var wrong []string
	for key, w := range wants {
		if p, there := at(pairs, key); w.torn || !there || p != w.pair {
			wrong = append(wrong, key)
		}
	}
	for _, p := range inside(pairs, whole(s)) {
		if _, there := wants[p.Key]; !there {
			wrong = append(wrong, p.Key)
		}
	}
	return wrong
}
