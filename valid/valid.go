// Package valid: the words by which the chapters name their arguments: see DOC.md, 'What is valid'. It stands on api alone.
package valid

import "tidemark/api"

// Txn tells whether an id is a valid transaction id.
func Txn(id api.Txn) bool { return id.Seq >= 1 }

// Usable tells whether a stamp may be issued, served or decided at.
func Usable(s api.Stamp) bool { return s.Wall < api.TopWall }

// Key tells whether a text is a key.
func Key(text string) bool { return text != "" && len(text) <= api.MaxKey }

// Value tells whether a text is a value.
func Value(text string) bool { return len(text) <= api.MaxValue }

// Span tells whether a span is valid.
func Span(s api.Span) bool {
	if len(s.Lo) > api.MaxBound || len(s.Hi) > api.MaxBound {
		return false
	}
	return s.Hi == "" || s.Lo < s.Hi
}

// Reads tells whether spans are valid reads.
func Reads(list []api.Span) bool {
	if len(list) > api.MaxReads {
		return false
	}
	for _, s := range list {
		if !Span(s) {
			return false
		}
	}
	return true
}

// Write tells whether a write may stand among valid writes.
func Write(w api.Write) bool {
	return Key(w.Key) && Value(w.Value) && (!w.Delete || w.Value == "")
}

// Writes tells whether writes are valid writes.
func Writes(list []api.Write) bool {
	if len(list) > api.MaxWrites {
		return false
	}
	last := "" // below every key
	for _, w := range list {
		if !Write(w) || w.Key <= last {
			return false
		}
		last = w.Key
	}
	return true
}

// Pairs tells whether pairs are valid pairs.
func Pairs(list []api.Pair) bool { return len(list) <= api.MaxPairs && AnyPairs(list) }

// AnyPairs tells whether pairs are valid but for their number.
func AnyPairs(list []api.Pair) bool {
	last := "" // below every key
	for _, p := range list {
		if !Key(p.Key) || !Value(p.Value) || p.Key <= last {
			return false
		}
		last = p.Key
	}
	return true
}
