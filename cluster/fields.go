package cluster

import (
	"strconv"
	"strings"

	"tidemark/api"
	"tidemark/route"
	"tidemark/stamp"
)

// fields are those of a line that are not read yet. What is read counts only if all of them are right: that is asked once, by end.
type fields struct {
	cluster *Cluster
	left    []string
	wrong   bool
}

// end tells whether all fields were right, and none is left.
func (f *fields) end() bool {
	f.check(len(f.left) == 0)
	return !f.wrong
}

// check notes whether a field is as it must be.
func (f *fields) check(right bool) { f.wrong = f.wrong || !right }

// next gives the next field as it stands. Of one that is missing the empty text is read, which no field may be.
func (f *fields) next() string {
	if len(f.left) == 0 {
		return ""
	}
	field := f.left[0]
	f.left = f.left[1:]
	return field
}

// number reads a number of so many bits.
func (f *fields) number(bits int) uint64 { return f.decimal(f.next(), bits) }

// decimal reads digits as a number. A number has one way to be written: without a zero in front.
func (f *fields) decimal(digits string, bits int) uint64 {
	n, err := strconv.ParseUint(digits, 10, bits) // in base 10 it takes digits alone: no sign, no underscore
	f.check(err == nil && (digits == "0" || digits[0] != '0'))
	return n
}

// count reads a number from 0 to 2^63 - 1.
func (f *fields) count() int { return int(f.number(63)) }

// place reads the place of a message in flight.
func (f *fields) place() int {
	i := f.count()
	f.check(i < f.cluster.flight.Len())
	return i
}

func (f *fields) node() node { return among(f, f.cluster.nodes, f.number(64)) }

func (f *fields) shard() *server { return among(f, f.cluster.shards, f.number(64)) }

func (f *fields) client() *client { return f.clientOf(f.next()) }

// clientOf gives the client with a number that stands in a field, or in a part of one.
func (f *fields) clientOf(digits string) *client {
	shards := uint64(len(f.cluster.shards))
	return among(f, f.cluster.clients, f.decimal(digits, 64)-shards) // of a shard's number it wraps round: no list is so long
}

// among gives the i-th of a list, if it is there.
func among[T any](f *fields, list []T, i uint64) T {
	var one T
	there := i < uint64(len(list))
	f.check(there)
	if there {
		one = list[i]
	}
	return one
}

// text reads a word, whatever text it is of.
func (f *fields) text() string { return f.unword(f.next()) }

func (f *fields) unword(word string) string {
	text, e := route.Unword(word)
	f.check(e == api.OK)
	return text
}

func (f *fields) stamp() api.Stamp {
	s, e := stamp.Parse(f.next())
	f.check(e == api.OK)
	return s
}

// token reads a token: a client's last one, or a word.
func (f *fields) token() string {
	field := f.next()
	digits, of := strings.CutPrefix(field, "@")
	if !of {
		return f.unword(field)
	}
	if k := f.clientOf(digits); k != nil {
		return k.Token()
	}
	return ""
}

// op reads the fields of an operation, behind the client's number.
func (f *fields) op(name string) api.Op {
	switch name {
	case "begin":
		return f.begin()
	case "get":
		return api.Op{Kind: api.OpGet, Key: f.text()}
	case "scan", "rscan":
		return api.Op{Kind: api.OpScan, Back: name == "rscan", Key: f.text(), Hi: f.text(), Limit: f.count()}
	case "put":
		return api.Op{Kind: api.OpPut, Key: f.text(), Value: f.text()}
	case "del":
		return api.Op{Kind: api.OpDelete, Key: f.text()}
	case "commit":
		return api.Op{Kind: api.OpCommit}
	case "abort":
		return api.Op{Kind: api.OpAbort}
	}
	f.check(false)
	return api.Op{}
}

func (f *fields) begin() api.Op {
	op := api.Op{Kind: api.OpBegin}
	switch f.next() {
	case "rw":
	case "ro":
		op.ReadOnly = true
	case "at":
		op.ReadOnly, op.AsOf = true, true
	default:
		f.check(false)
	}
	op.Token = f.token()
	return op
}
