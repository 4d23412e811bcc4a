package locks

import (
	"slices"

	"tidemark/api"
)

// Inside tells whether a text is inside a span (P10.1).
func Inside(key string, s api.Span) bool {
	return s.Lo <= key && (s.Hi == "" || key < s.Hi)
}

// Overlap tells whether some text is inside both spans (P10.2). To ask for the greater Lo is enough: nothing below it is inside both, and it is inside wherever something above it is.
func Overlap(a, b api.Span) bool {
	lo := max(a.Lo, b.Lo)
	return Inside(lo, a) && Inside(lo, b)
}

// within tells whether a key is inside one of the spans.
func within(key string, spans []api.Span) bool {
	return slices.ContainsFunc(spans, func(s api.Span) bool { return Inside(key, s) })
}

// anyWithin tells whether the key of one of the writes is inside one of the spans.
func anyWithin(writes []api.Write, spans []api.Span) bool {
	return slices.ContainsFunc(writes, func(w api.Write) bool { return within(w.Key, spans) })
}
