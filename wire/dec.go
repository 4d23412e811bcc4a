package wire

import (
	"tidemark/api"
	"tidemark/stamp"
)

const stampSize = 16

// Dec takes bytes apart. One that has stopped has nothing left, so that each later take comes to nothing by itself.
type Dec struct {
	rest    string
	stopped api.Errno // the first error
}

// fault is what a take gives up with, however deep inside it is.
type fault struct{ reason api.Errno }

// Open begins to take s apart (P3.3).
func Open(s string) *Dec { return &Dec{rest: s} }

// Byte takes one byte (P3.3, P3.4).
func (d *Dec) Byte() byte {
	defer func() { d.stop(recover()) }()
	return d.next()
}

// Flag takes a bool (P3.3, P3.4).
func (d *Dec) Flag() bool {
	defer func() { d.stop(recover()) }()
	v := d.next()
	if v != trueByte && v != falseByte {
		panic(fault{api.ErrForm})
	}
	return v == trueByte
}

// Var takes a number of at most max (P3.3, P3.4).
func (d *Dec) Var(max uint64) uint64 {
	defer func() { d.stop(recover()) }()
	return d.number(max)
}

// Text takes a text of at most max bytes (P3.3, P3.4).
func (d *Dec) Text(max int) string {
	defer func() { d.stop(recover()) }()
	return d.text(notBelowZero(max))
}

// Texts takes texts: at most count of them, each of at most max bytes (P3.3, P3.4).
func (d *Dec) Texts(count, max int) []string {
	defer func() { d.stop(recover()) }()
	var list []string // no room is made ahead: the number of texts is only what the bytes claim
	for range d.number(notBelowZero(count)) {
		list = append(list, d.text(notBelowZero(max)))
	}
	return list
}

// Raw takes n bytes as they are (P3.3, P3.4).
func (d *Dec) Raw(n int) string {
	defer func() { d.stop(recover()) }()
	return d.bytes(notBelowZero(n))
}

// Stamp takes a stamp's 16 bytes (P3.3, P3.4).
func (d *Dec) Stamp() api.Stamp {
	defer func() { d.stop(recover()) }()
	s, _ := stamp.Unpack(d.bytes(stampSize)) // any 16 bytes are a stamp's
	return s
}

// Left tells how many bytes are left (P3.3).
func (d *Dec) Left() int { return len(d.rest) }

// End tells the first error, or whether bytes are left over (P3.5).
func (d *Dec) End() api.Errno {
	if d.stopped != api.OK {
		return d.stopped
	}
	if d.rest != "" {
		return api.ErrForm
	}
	return api.OK
}

// stop takes what a take has recovered: nothing, if it came through. Behind a fault that take answers the zero value, for it has not returned one.
func (d *Dec) stop(recovered any) {
	if recovered == nil {
		return
	}
	f, own := recovered.(fault)
	if !own {
		panic(recovered) // no fault of the bytes: hiding it would spoil the answer
	}
	d.rest = ""
	if d.stopped == api.OK {
		d.stopped = f.reason
	}
}

// next, number, text and bytes panic with a fault where the bytes don't hold what is asked for.

func (d *Dec) next() byte { return d.bytes(1)[0] }

func (d *Dec) number(max uint64) uint64 {
	n := d.sevens()
	if n > max {
		panic(fault{api.ErrForm})
	}
	return n
}

// sevens puts a number together of its bytes, seven bits each.
func (d *Dec) sevens() uint64 {
	var n uint64
	for i := 0; ; i++ {
		b := d.next()
		if i == longestNumber-1 && b > 1 { // only one of the 64 bits is left for the last byte
			panic(fault{api.ErrForm})
		}
		n |= uint64(b&^more) << (i * bitsAByte)
		if b >= more {
			continue
		}
		if b == 0 && i > 0 { // it was not as few bytes as it takes
			panic(fault{api.ErrForm})
		}
		return n
	}
}

func (d *Dec) text(max uint64) string { return d.bytes(d.number(max)) }

func (d *Dec) bytes(n uint64) string {
	if n > uint64(len(d.rest)) {
		panic(fault{api.ErrShort})
	}
	taken := d.rest[:n]
	d.rest = d.rest[n:]
	return taken
}

func notBelowZero(n int) uint64 { return uint64(max(n, 0)) }
