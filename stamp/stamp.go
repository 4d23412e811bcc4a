// Package stamp: timestamps, their order, their bytes and texts: see doc/01-stamp.md.
package stamp

import (
	"slices"
	"strconv"
	"strings"

	"tidemark/api"
)

const (
	packedSize  = 16
	logicalFrom = 8  // the first byte behind the wall number
	nodeFrom    = 12 // the first byte behind the logical number

	longestText = 20 + 1 + 10 + 1 + 10 // the digits of each field's greatest number, and the dots
)

// Compare tells the order of two stamps: -1, 0 or 1 (P1.1).
func Compare(a, b api.Stamp) int {
	if a == b {
		return 0
	}
	if Less(a, b) {
		return -1
	}
	return 1
}

// Less tells whether a comes before b (P1.1).
func Less(a, b api.Stamp) bool {
	if a.Wall != b.Wall {
		return a.Wall < b.Wall
	}
	if a.Logical != b.Logical {
		return a.Logical < b.Logical
	}
	return a.Node < b.Node
}

// Max tells the greatest of any number of stamps (P1.2).
func Max(list ...api.Stamp) api.Stamp {
	var greatest api.Stamp // the least stamp of all, so it gives way to any other
	for _, s := range list {
		if Less(greatest, s) {
			greatest = s
		}
	}
	return greatest
}

// Next tells the stamp that follows s at a node without a physical reading (P1.3).
func Next(s api.Stamp, node uint32) (api.Stamp, api.Errno) {
	if s.Wall == api.TopWall {
		return api.Stamp{}, api.ErrExhausted
	}
	if s.Logical < api.TopLogical {
		return api.Stamp{Wall: s.Wall, Logical: s.Logical + 1, Node: node}, api.OK
	}
	if s.Wall+1 == api.TopWall {
		return api.Stamp{}, api.ErrExhausted
	}
	return api.Stamp{Wall: s.Wall + 1, Node: node}, api.OK
}

// Pack gives a stamp's 16 bytes (P1.4).
func Pack(s api.Stamp) string {
	var packed [packedSize]byte
	putNumber(packed[:logicalFrom], s.Wall)
	putNumber(packed[logicalFrom:nodeFrom], uint64(s.Logical))
	putNumber(packed[nodeFrom:], uint64(s.Node))
	return string(packed[:])
}

// putNumber puts the highest byte first: only so do the bytes sort as the numbers do.
func putNumber(room []byte, number uint64) {
	for i := len(room) - 1; i >= 0; i-- {
		room[i] = byte(number)
		number >>= 8
	}
}

// Unpack gives the stamp of 16 bytes (P1.4).
func Unpack(b string) (api.Stamp, api.Errno) {
	if len(b) != packedSize {
		return api.Stamp{}, api.ErrStamp
	}
	return api.Stamp{
		Wall:    number(b[:logicalFrom]),
		Logical: uint32(number(b[logicalFrom:nodeFrom])),
		Node:    uint32(number(b[nodeFrom:])),
	}, api.OK
}

// number undoes putNumber, for at most eight bytes.
func number(b string) uint64 {
	var n uint64
	for i := range len(b) {
		n = n<<8 | uint64(b[i])
	}
	return n
}

// Text gives a stamp's text (P1.5).
func Text(s api.Stamp) string {
	return decimal(s.Wall) + "." + decimal(uint64(s.Logical)) + "." + decimal(uint64(s.Node))
}

func decimal(n uint64) string { return strconv.FormatUint(n, 10) }

// Parse gives the stamp of a text (P1.5).
func Parse(text string) (api.Stamp, api.Errno) {
	if len(text) > longestText {
		return api.Stamp{}, api.ErrStamp
	}
	// A missing dot leaves a field empty, a dot too many stays within the last field: neither reads as a number.
	first, rest, _ := strings.Cut(text, ".")
	second, third, _ := strings.Cut(rest, ".")
	wall, wallOK := parseField(first, 64)
	logical, logicalOK := parseField(second, 32)
	node, nodeOK := parseField(third, 32)
	if !wallOK || !logicalOK || !nodeOK {
		return api.Stamp{}, api.ErrStamp
	}
	return api.Stamp{Wall: wall, Logical: uint32(logical), Node: uint32(node)}, api.OK
}

// parseField reads a number of so many bits, in the one form that Text gives it.
func parseField(digits string, bits int) (uint64, bool) {
	if len(digits) > 1 && digits[0] == '0' {
		return 0, false
	}
	n, err := strconv.ParseUint(digits, 10, bits) // in base 10 it takes digits alone: no sign, no underscore
	return n, err == nil
}

// Sort gives the stamps of a list, rising (P1.6).
func Sort(list []api.Stamp) []api.Stamp {
	sorted := make([]api.Stamp, len(list))
	copy(sorted, list)
	slices.SortFunc(sorted, Compare)
	return sorted
}
