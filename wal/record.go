package wal

import (
	"math"

	"tidemark/api"
	"tidemark/valid"
	"tidemark/wire"
)

// Valid tells whether a record may be (P7.1).
func Valid(r api.Record) api.Errno {
	if !fieldsMayBe(r) || !blank(withoutFields(r)) {
		return api.ErrRecord
	}
	return api.OK
}

// Encode gives a record's bytes, one frame (P7.2).
func Encode(r api.Record) (string, api.Errno) {
	if Valid(r) != api.OK {
		return "", api.ErrRecord
	}
	var e wire.Enc
	e.Byte(byte(r.Kind))
	putFields(&e, r)
	return wire.Frame(e.Bytes()) // no payload is too long for a frame
}

// Decode gives the record of one frame's payload (P7.3). That what was taken gives the same bytes again is the decoder's promise.
func Decode(payload string) (api.Record, api.Errno) {
	d := wire.Open(payload)
	r := takeFields(d, api.RecordKind(d.Byte()))
	if d.End() != api.OK || Valid(r) != api.OK {
		return api.Record{}, api.ErrRecord
	}
	return r, api.OK
}

// fieldsMayBe tells whether there is such a kind, and whether the fields that it names are as they may be.
func fieldsMayBe(r api.Record) bool {
	switch r.Kind {
	case api.RecReserve:
		return true
	case api.RecPrepare:
		return valid.Txn(r.Txn) && valid.Usable(r.At) && footprintMayBe(r.Reads, r.Writes)
	case api.RecDecide:
		return valid.Txn(r.Txn) && verdictMayBe(r.Outcome, r.At)
	case api.RecMark:
		return valid.Usable(r.At)
	case api.RecImage:
		return len(r.Image) <= maxImage
	}
	return false
}

func footprintMayBe(reads []api.Span, writes []api.Write) bool {
	if len(reads) == 0 && len(writes) == 0 {
		return false
	}
	return valid.Reads(reads) && valid.Writes(writes)
}

func verdictMayBe(o api.Outcome, at api.Stamp) bool {
	switch o {
	case api.Committed:
		return valid.Usable(at)
	case api.Aborted:
		return at == api.Stamp{}
	}
	return false
}

// withoutFields empties the fields that a record's kind names: what is left in it should not be there.
func withoutFields(r api.Record) api.Record {
	switch r.Kind {
	case api.RecReserve:
		r.Wall = 0
	case api.RecPrepare:
		r.Txn, r.Home, r.At, r.Reads, r.Writes = api.Txn{}, 0, api.Stamp{}, nil, nil
	case api.RecDecide:
		r.Txn, r.Home, r.Outcome, r.At = api.Txn{}, 0, api.Unknown, api.Stamp{}
	case api.RecMark:
		r.At = api.Stamp{}
	case api.RecImage:
		r.Image = ""
	}
	return r
}

// blank tells whether a record has nothing but its kind.
func blank(r api.Record) bool {
	return r.Wall == 0 && r.Txn == api.Txn{} && r.Home == 0 && r.Outcome == api.Unknown && r.At == api.Stamp{} &&
		len(r.Reads) == 0 && len(r.Writes) == 0 && r.Image == ""
}

// putFields adds what stands behind the kind in a payload.
func putFields(e *wire.Enc, r api.Record) {
	switch r.Kind {
	case api.RecReserve:
		e.Var(r.Wall)
	case api.RecPrepare:
		putTransaction(e, r)
		e.Stamp(r.At)
		putReads(e, r.Reads)
		putWrites(e, r.Writes)
	case api.RecDecide:
		putTransaction(e, r)
		e.Byte(byte(r.Outcome))
		e.Stamp(r.At)
	case api.RecMark:
		e.Stamp(r.At)
	case api.RecImage:
		e.Text(r.Image)
	}
}

func putTransaction(e *wire.Enc, r api.Record) {
	e.Var(uint64(r.Txn.Client))
	e.Var(uint64(r.Txn.Seq))
	e.Var(uint64(r.Home))
}

func putReads(e *wire.Enc, list []api.Span) {
	e.Var(uint64(len(list)))
	for _, s := range list {
		e.Text(s.Lo)
		e.Text(s.Hi)
	}
}

func putWrites(e *wire.Enc, list []api.Write) {
	e.Var(uint64(len(list)))
	for _, w := range list {
		e.Text(w.Key)
		e.Flag(w.Delete)
		e.Text(w.Value)
	}
}

// takeFields undoes putFields; what d could not give is zero.
func takeFields(d *wire.Dec, kind api.RecordKind) api.Record {
	r := api.Record{Kind: kind}
	switch kind {
	case api.RecReserve:
		r.Wall = d.Var(math.MaxUint64)
	case api.RecPrepare:
		takeTransaction(d, &r)
		r.At = d.Stamp()
		r.Reads, r.Writes = takeLists(d.Var, d.Text, d.Flag)
	case api.RecDecide:
		takeTransaction(d, &r)
		r.Outcome, r.At = api.Outcome(d.Byte()), d.Stamp()
	case api.RecMark:
		r.At = d.Stamp()
	case api.RecImage:
		r.Image = d.Text(maxImage)
	}
	return r
}

func takeTransaction(d *wire.Dec, r *api.Record) {
	r.Txn.Client = uint32(d.Var(math.MaxUint32))
	r.Txn.Seq = uint32(d.Var(math.MaxUint32))
	r.Home = uint32(d.Var(math.MaxUint32))
}

// takeLists takes what was read and what is written. It is handed the takes alone, so that it needn't know what they take from.
func takeLists(number func(most uint64) uint64, text func(most int) string, flag func() bool) ([]api.Span, []api.Write) {
	var reads []api.Span
	for range number(api.MaxReads) {
		reads = append(reads, api.Span{Lo: text(api.MaxBound), Hi: text(api.MaxBound)})
	}
	var writes []api.Write
	for range number(api.MaxWrites) {
		writes = append(writes, api.Write{Key: text(api.MaxKey), Delete: flag(), Value: text(api.MaxValue)})
	}
	return reads, writes
}
