// Package asof: the pairs that versions make at a stamp, however many: see doc/09-mvcc.md, 'The value at t'. Layers that make backups share it.
package asof

import (
	"tidemark/api"
	"tidemark/stamp"
)

// Pairs gives the pairs at a stamp of versions that stand by key, rising, and under one key by stamp, rising.
func Pairs(versions []api.Version, at api.Stamp) []api.Pair {
	var pairs []api.Pair
	for i, v := range versions {
		if v.Delete || stamp.Less(at, v.At) || hidden(v.Key, versions[i+1:], at) {
			continue
		}
		pairs = append(pairs, api.Pair{Key: v.Key, Value: v.Value})
	}
	return pairs
}

// hidden tells whether a key's next version, the first of those behind, is one at or below the stamp too.
func hidden(key string, behind []api.Version, at api.Stamp) bool {
	return len(behind) > 0 && behind[0].Key == key && !stamp.Less(at, behind[0].At)
}
