package state

import (
	"math"

	"tidemark/api"
	"tidemark/mvcc"
	"tidemark/valid"
	"tidemark/wal"
	"tidemark/wire"
)

// Image gives the state's bytes (P13.4).
func (s *State) Image() string {
	var e wire.Enc
	putNumber(&e, s.node)
	e.Var(s.ceiling)
	e.Stamp(s.Watermark())
	putList(&e, s.Held(), putHeld)
	putList(&e, s.Entries(), putEntry)
	putList(&e, s.Versions(), putVersion)
	return e.Bytes()
}

// Load makes the state of an image (P13.5). What is taken from the bytes need only be sound: that they are its image is seen by making that image, so that no byte goes unlooked at.
func Load(node uint32, image string) (*State, api.Errno) {
	s := New(node)
	if !s.take(wire.Open(image)) || s.Image() != image {
		return nil, api.ErrImage
	}
	return s, api.OK
}

// take fills an empty state with what an image says, and tells whether it is that node's and sound.
func (s *State) take(d *wire.Dec) bool {
	if takeNumber(d) != s.node {
		return false
	}
	s.ceiling = d.Var(math.MaxUint64)
	mark := d.Stamp()
	held, entries, versions := takeList(d, takeHeld), takeList(d, takeEntry), takeList(d, takeVersion)
	return s.fillVersions(versions, mark) && s.fillEntries(entries) && s.fillHeld(held) && !overtakes(versions, held...)
}

func (c *content) fillVersions(list []api.Version, mark api.Stamp) bool {
	for _, v := range list {
		if !c.reserved(v.At) {
			return false
		}
	}
	store, e := mvcc.Load(list, mark) // it refuses what is no version, and two at one place
	if e != api.OK || !valid.Usable(mark) {
		return false
	}
	c.versions = *store
	return true
}

func (c *content) fillEntries(list []api.Entry) bool {
	for _, e := range list {
		r := api.Record{Kind: api.RecDecide, Txn: e.Txn, Home: e.Home, Outcome: e.Outcome, At: e.At}
		if wal.Valid(r) != api.OK || c.decided(e.Txn) || e.Outcome == api.Committed && !c.reserved(e.At) {
			return false
		}
		c.lay(e)
	}
	return true
}

// fillHeld comes behind fillEntries, which doesn't look at what is held.
func (c *content) fillHeld(list []api.Held) bool {
	for _, h := range list {
		r := api.Record{Kind: api.RecPrepare, Txn: h.Txn, Home: h.Home, At: h.At, Reads: h.Reads, Writes: h.Writes}
		if wal.Valid(r) != api.OK || !c.hold(h) {
			return false
		}
	}
	return true
}

func putNumber(e *wire.Enc, n uint32) { e.Var(uint64(n)) }

func takeNumber(d *wire.Dec) uint32 { return uint32(d.Var(math.MaxUint32)) }

func putList[T any](e *wire.Enc, list []T, put func(*wire.Enc, T)) {
	e.Var(uint64(len(list)))
	for _, one := range list {
		put(e, one)
	}
}

// takeList takes no more than there are bytes for, whatever number the bytes claim.
func takeList[T any](d *wire.Dec, take func(*wire.Dec) T) []T {
	var list []T
	for n := d.Var(math.MaxUint64); n > 0 && d.Left() > 0; n-- {
		list = append(list, take(d))
	}
	return list
}

func putTransaction(e *wire.Enc, txn api.Txn, home uint32) {
	putNumber(e, txn.Client)
	putNumber(e, txn.Seq)
	putNumber(e, home)
}

func takeTransaction(d *wire.Dec) (api.Txn, uint32) {
	txn := api.Txn{Client: takeNumber(d), Seq: takeNumber(d)}
	return txn, takeNumber(d)
}

func putHeld(e *wire.Enc, h api.Held) {
	putTransaction(e, h.Txn, h.Home)
	e.Stamp(h.At)
	putList(e, h.Reads, putSpan)
	putList(e, h.Writes, putWrite)
}

func takeHeld(d *wire.Dec) api.Held {
	txn, home := takeTransaction(d)
	return api.Held{Txn: txn, Home: home, At: d.Stamp(), Reads: takeList(d, takeSpan), Writes: takeList(d, takeWrite)}
}

func putSpan(e *wire.Enc, s api.Span) {
	e.Text(s.Lo)
	e.Text(s.Hi)
}

func takeSpan(d *wire.Dec) api.Span {
	return api.Span{Lo: d.Text(api.MaxBound), Hi: d.Text(api.MaxBound)}
}

func putWrite(e *wire.Enc, w api.Write) {
	e.Text(w.Key)
	e.Flag(w.Delete)
	e.Text(w.Value)
}

func takeWrite(d *wire.Dec) api.Write {
	return api.Write{Key: d.Text(api.MaxKey), Delete: d.Flag(), Value: d.Text(api.MaxValue)}
}

func putEntry(e *wire.Enc, entry api.Entry) {
	putTransaction(e, entry.Txn, entry.Home)
	e.Byte(byte(entry.Outcome))
	e.Stamp(entry.At)
}

func takeEntry(d *wire.Dec) api.Entry {
	txn, home := takeTransaction(d)
	return api.Entry{Txn: txn, Home: home, Outcome: api.Outcome(d.Byte()), At: d.Stamp()}
}

func putVersion(e *wire.Enc, v api.Version) {
	e.Text(v.Key)
	e.Stamp(v.At)
	e.Flag(v.Delete)
	e.Text(v.Value)
}

func takeVersion(d *wire.Dec) api.Version {
	return api.Version{Key: d.Text(api.MaxKey), At: d.Stamp(), Delete: d.Flag(), Value: d.Text(api.MaxValue)}
}
