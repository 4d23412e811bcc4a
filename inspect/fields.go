package inspect

import (
	"errors"
	"strconv"
	"strings"

	"tidemark/api"
	"tidemark/route"
	"tidemark/stamp"
)

// errNoRecord is what the reader gives up with, however deep inside it is.
var errNoRecord = errors.New("the line is no record's")

// gaveUp tells whether the reader gave a line up. Any other panic is no fault of the line: hiding it would spoil the answer.
func gaveUp(recovered any) bool {
	if recovered == nil {
		return false
	}
	if recovered != errNoRecord {
		panic(recovered)
	}
	return true
}

// must gives the line up, unless what has to hold of it holds.
func must(holds bool) {
	if !holds {
		panic(errNoRecord)
	}
}

// fields are those of a line that are not read yet.
type fields struct {
	left  string
	ended bool // none is left: that left is empty doesn't tell, as a blank at the line's end has an empty field behind it
}

// next takes the next field as it stands. Of one that is missing the empty text is taken, which no field may be.
func (f *fields) next() string {
	field, left, more := strings.Cut(f.left, " ")
	f.left, f.ended = left, !more
	return field
}

// end sees to it that no field is left.
func (f *fields) end() { must(f.ended) }

// number takes a number of so many bits.
func (f *fields) number(bits int) uint64 {
	digits := f.next()
	n, err := strconv.ParseUint(digits, 10, bits)
	must(err == nil && decimal(n) == digits) // no leading zeros
	return n
}

func (f *fields) small() uint32 { return uint32(f.number(32)) }

func (f *fields) stamp() api.Stamp {
	s, e := stamp.Parse(f.next())
	must(e == api.OK)
	return s
}

// text takes a word, and gives the text of which it is.
func (f *fields) text() string {
	text, e := route.Unword(f.next())
	must(e == api.OK)
	return text
}

// transaction takes the fields with which the lines of several kinds begin.
func (f *fields) transaction(kind api.RecordKind) api.Record {
	return api.Record{Kind: kind, Txn: api.Txn{Client: f.small(), Seq: f.small()}, Home: f.small()}
}

func decimal(n uint64) string { return strconv.FormatUint(n, 10) }
