// Package valid: the words by which the chapters name their arguments: see DOC.md, 'What is valid'. It stands on api alone.
package valid

import "tidemark/api"

// Txn tells whether an id is a valid transaction id.
func Txn(id api.Txn) bool { return id.Seq >= 1 }

// Usable tells whether a stamp may be issued, served or decided at.
func Usable(s api.Stamp) bool { return s.Wall < api.TopWall }

// Span tells whether a span is valid.
func Span(s api.Span) bool {
	if len(s.Lo) > api.MaxBound || len(s.Hi) > api.MaxBound {
		return false
	}
	return s.Hi == "" || s.Lo < s.Hi
}

// Reads tells whether spans are valid reads.
func Reads(list []api.Span) bool {
	if len(list) > api.MaxReads {
		return false
	}
	for _, s := range list {
		if !Span(s) {
			return false
		}
	}
	return true
}

// Writes tells whether writes are valid writes.
func Writes(list []api.Write) bool {
	if len(list) > api.MaxWrites {
		return false
	}
	last := ""
	for _, w := range list {
		if !nextKey(last, w.Key) || len(w.Value) > api.MaxValue || w.Delete && w.Value != "" {
			return false
		}
		last = w.Key
	}
	return true
}

// Pairs tells whether pairs are valid pairs.
func Pairs(list []api.Pair) bool {
	if len(list) > api.MaxPairs {
		return false
	}
	last := ""
	for _, p := range list {
		if !nextKey(last, p.Key) || len(p.Value) > api.MaxValue {
			return false
		}
		last = p.Key
	}
	return true
}

// nextKey tells whether a key may stand behind last. The empty text stands ahead of all: it is no key itself, and each key is above it.
func nextKey(last, key string) bool { return last < key && len(key) <= api.MaxKey }
