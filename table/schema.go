package table

import (
	"slices"
	"strings"

	"tidemark/api"
)

// How many letters a name may have at most: any, and a table's.
const (
	maxName      = 8
	maxTableName = 6
)

// mayBe tells whether a schema is valid.
func mayBe(s api.Schema) bool {
	return isName(s.Name, maxTableName) && columnsMayBe(s) && indexesMayBe(s)
}

func isName(text string, most int) bool {
	return text != "" && len(text) <= most && !strings.ContainsFunc(text, isNoLetter)
}

func isNoLetter(r rune) bool { return r < 'a' || r > 'z' }

func columnsMayBe(s api.Schema) bool {
	if len(s.Columns) > api.MaxColumns || s.Key < 1 || s.Key > len(s.Columns) {
		return false
	}
	var names []string
	for i, c := range s.Columns {
		if !isName(c.Name, maxName) || !isColumnKind(c.Kind) || c.Null && i < s.Key {
			return false
		}
		names = append(names, c.Name)
	}
	return unlike(names)
}

func isColumnKind(k api.ValueKind) bool {
	return k == api.ValBool || k == api.ValInt || k == api.ValText
}

func indexesMayBe(s api.Schema) bool {
	if len(s.Indexes) > api.MaxIndexes {
		return false
	}
	var names []string
	for _, x := range s.Indexes {
		if !isName(x.Name, maxName) || !placesMayBe(x.Columns, len(s.Columns)) {
			return false
		}
		names = append(names, x.Name)
	}
	return unlike(names)
}

// placesMayBe asks for the number first: unlike goes over long lists slowly.
func placesMayBe(places []int, columns int) bool {
	if len(places) < 1 || len(places) > columns {
		return false
	}
	return slices.Min(places) >= 0 && slices.Max(places) < columns && unlike(places)
}

// unlike tells whether no two of a list are alike.
func unlike[T comparable](list []T) bool {
	for i, x := range list {
		if slices.Contains(list[:i], x) {
			return false
		}
	}
	return true
}
