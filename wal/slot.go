package wal

import (
	"tidemark/api"
	"tidemark/wire"
)

// headerMark is what a header's payload has ahead of the generation. No record's kind is 0, so none is taken for a header.
const headerMark = "\x00tide"

// noSlot is the number that stands for neither slot.
const noSlot = -1

// content is what a slot's bytes hold; the zero content, if they hold no log.
type content struct {
	generation uint64
	records    []api.Record
	good       int // bytes
}

// Scan reads a slot's bytes: the generation (0: they hold no log), the records, and how many bytes are good (P7.4).
func Scan(bytes string) (uint64, []api.Record, int) {
	c := contentOf(bytes)
	return c.generation, c.records, c.good
}

// Pick reads both slots' bytes: the slot whose log counts (-1: neither), and its records (P7.5).
func Pick(a, b string) (int, []api.Record) {
	slot, c := pick(a, b)
	return slot, c.records
}

// pick tells which slot counts, and what it holds.
func pick(a, b string) (int, content) {
	first, second := contentOf(a), contentOf(b)
	if first.generation == 0 && second.generation == 0 {
		return noSlot, content{}
	}
	if second.generation > first.generation {
		return 1, second
	}
	return 0, first
}

func contentOf(bytes string) content {
	generation, rest, ok := takeHeader(bytes)
	if !ok {
		return content{}
	}
	var records []api.Record
	if generation > firstGeneration {
		image, behind, ok := takeRecord(rest)
		if !ok || image.Kind != api.RecImage {
			return content{} // what went before is in the image alone
		}
		records, rest = append(records, image), behind
	}
	for {
		r, behind, ok := takeRecord(rest)
		if !ok || r.Kind == api.RecImage {
			return content{generation, records, len(bytes) - len(rest)}
		}
		records, rest = append(records, r), behind
	}
}

// takeRecord takes a record's bytes off: the record, and what follows it.
func takeRecord(bytes string) (api.Record, string, bool) {
	payload, rest, e := wire.Unframe(bytes)
	if e != api.OK {
		return api.Record{}, "", false
	}
	r, e := Decode(payload)
	return r, rest, e == api.OK
}

// header gives the bytes with which a slot of that generation begins.
func header(generation uint64) string {
	var e wire.Enc
	e.Raw(headerMark)
	e.Var(generation)
	frame, _ := wire.Frame(e.Bytes()) // far shorter than a frame may be
	return frame
}

// takeHeader undoes header: the generation, and what follows.
func takeHeader(bytes string) (uint64, string, bool) {
	payload, rest, e := wire.Unframe(bytes)
	if e != api.OK {
		return 0, "", false
	}
	d := wire.Open(payload)
	mark, generation := d.Raw(len(headerMark)), d.Var(lastGeneration)
	if d.End() != api.OK || mark != headerMark || generation < firstGeneration {
		return 0, "", false
	}
	return generation, rest, true
}
