package wire

import (
	"tidemark/api"
	"tidemark/stamp"
)

// Enc gathers bytes. The pieces are never changed once they are laid down, so an Enc and a copy of it can both go on without touching one another, as two slices of one array could not.
type Enc struct {
	last *piece
	size int // the bytes of all pieces
}

type piece struct {
	before *piece
	text   string
}

// Byte adds one byte (P3.2).
func (e *Enc) Byte(v byte) { e.Raw(string([]byte{v})) }

// Flag adds a bool (P3.2).
func (e *Enc) Flag(v bool) {
	if v {
		e.Byte(trueByte)
	} else {
		e.Byte(falseByte)
	}
}

// Var adds a number, in as few bytes as it takes (P3.2).
func (e *Enc) Var(v uint64) {
	room := make([]byte, 0, longestNumber)
	for v >= more {
		room = append(room, byte(v)|more)
		v >>= bitsAByte
	}
	e.Raw(string(append(room, byte(v))))
}

// Text adds a text with its length (P3.2).
func (e *Enc) Text(s string) {
	e.Var(uint64(len(s)))
	e.Raw(s)
}

// Texts adds any number of texts with their count (P3.2).
func (e *Enc) Texts(list ...string) {
	e.Var(uint64(len(list)))
	for _, s := range list {
		e.Text(s)
	}
}

// Raw adds bytes as they are (P3.2).
func (e *Enc) Raw(s string) {
	e.last = &piece{before: e.last, text: s}
	e.size += len(s)
}

// Stamp adds a stamp's 16 bytes (P3.2).
func (e *Enc) Stamp(s api.Stamp) { e.Raw(stamp.Pack(s)) }

// Bytes tells the bytes gathered so far (P3.1).
func (e *Enc) Bytes() string {
	room := make([]byte, e.size)
	end := e.size
	for p := e.last; p != nil; p = p.before {
		end -= len(p.text)
		copy(room[end:], p.text)
	}
	return string(room)
}
