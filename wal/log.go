package wal

import (
	"tidemark/api"
	"tidemark/disk"
)

// phase tells where a log stands between two checkpoints.
type phase int

const (
	settled phase = iota // one slot holds all
	pending              // a checkpoint isn't synced yet, so the slot of the earlier generation must stay
)

// Log is a log that is open.
type Log struct {
	disk       *disk.Disk
	slot       int // the one that is being written
	generation uint64
	phase      phase
	end        int
	synced     int
}

// Open recovers the log of a disk and tells its records (P7.6).
func Open(d *disk.Disk) (*Log, []api.Record, api.Errno) {
	if d == nil {
		return nil, nil, api.ErrArg
	}
	d.Sync()
	slot, c := pick(d.Bytes(0), d.Bytes(1))
	if slot == noSlot {
		l, e := begin(d)
		return l, nil, e
	}
	d.Truncate(slot, c.good)
	d.Remove(other(slot))
	return &Log{disk: d, slot: slot, generation: c.generation}, c.records, api.OK
}

// begin lays the first generation on a disk that holds no log.
func begin(d *disk.Disk) (*Log, api.Errno) {
	d.Remove(0)
	d.Remove(1)
	if e := d.Append(0, header(firstGeneration)); e != api.OK {
		return nil, e
	}
	d.Sync()
	return &Log{disk: d, slot: 0, generation: firstGeneration}, api.OK
}

// Append adds a record, not synced yet (P7.7).
func (l *Log) Append(r api.Record) api.Errno {
	if r.Kind == api.RecImage { // only a checkpoint may write one
		return api.ErrRecord
	}
	bytes, e := Encode(r)
	if e != api.OK {
		return e
	}
	if e := l.write(l.slot, bytes); e != api.OK {
		return e
	}
	l.end++
	return api.OK
}

// Sync makes all durable, and lets the earlier generation go if a checkpoint was pending (P7.9).
func (l *Log) Sync() {
	if l.disk == nil {
		return
	}
	l.disk.Sync()
	l.synced = l.end
	if l.phase == pending {
		l.disk.Remove(other(l.slot))
		l.phase = settled
	}
}

// End counts the records appended since Open (P7.8).
func (l *Log) End() int { return l.end }

// Synced counts those of them that are durable (P7.8).
func (l *Log) Synced() int { return l.synced }

// Checkpoint begins the next generation in the other slot, from an image (P7.10).
func (l *Log) Checkpoint(image string) api.Errno {
	if l.phase == pending {
		return api.ErrPending
	}
	bytes, e := Encode(api.Record{Kind: api.RecImage, Image: image})
	if e != api.OK {
		return e
	}
	if l.generation >= lastGeneration {
		return api.ErrFull
	}
	next := l.generation + 1
	if e := l.write(other(l.slot), header(next)+bytes); e != api.OK { // at one go, so that there is never the one without the other
		return e
	}
	l.slot, l.generation, l.phase = other(l.slot), next, pending
	return api.OK
}

// Generation tells the generation that is being written (P7.8).
func (l *Log) Generation() uint64 { return l.generation }

// write adds bytes to a slot. A Log that Open has not made has no disk, and so no room.
func (l *Log) write(slot int, bytes string) api.Errno {
	if l.disk == nil {
		return api.ErrFull
	}
	return l.disk.Append(slot, bytes)
}

func other(slot int) int { return 1 - slot }
