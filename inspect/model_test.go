package inspect

import (
	"cmp"
	"fmt"
	"slices"
	"strings"
	"testing"

	"tidemark/api"
	"tidemark/stamp"
	"tidemark/state"
	"tidemark/wal"
	"tidemark/wire"
)

const (
	topWall  = 18446744073709551615
	topSmall = 4294967295
	maxImage = 1048560
)

func at(wall uint64, logical, node uint32) api.Stamp {
	return api.Stamp{Wall: wall, Logical: logical, Node: node}
}

func txn(client, seq uint32) api.Txn { return api.Txn{Client: client, Seq: seq} }

var t21 = txn(2, 1)

// Records.

func reserved(wall uint64) api.Record { return api.Record{Kind: api.RecReserve, Wall: wall} }

func prepared(t api.Txn, home uint32, s api.Stamp, writes ...api.Write) api.Record {
	return api.Record{Kind: api.RecPrepare, Txn: t, Home: home, At: s, Writes: writes}
}

func committed(t api.Txn, home uint32, s api.Stamp) api.Record {
	return api.Record{Kind: api.RecDecide, Txn: t, Home: home, Outcome: api.Committed, At: s}
}

func aborted(t api.Txn, home uint32) api.Record {
	return api.Record{Kind: api.RecDecide, Txn: t, Home: home, Outcome: api.Aborted}
}

func marked(s api.Stamp) api.Record { return api.Record{Kind: api.RecMark, At: s} }

func imaged(text string) api.Record { return api.Record{Kind: api.RecImage, Image: text} }

func put(key, value string) api.Write { return api.Write{Key: key, Value: value} }

func deleted(key string) api.Write { return api.Write{Key: key, Delete: true} }

func sameRecord(a, b api.Record) bool {
	return a.Kind == b.Kind && a.Wall == b.Wall && a.Txn == b.Txn && a.Home == b.Home && a.Outcome == b.Outcome &&
		a.At == b.At && slices.Equal(a.Reads, b.Reads) && slices.Equal(a.Writes, b.Writes) && a.Image == b.Image
}

// The bytes of a slot.

func framed(t *testing.T, payload string) string {
	t.Helper()
	frame, e := wire.Frame(payload)
	if e != api.OK {
		t.Fatalf("no frame: %d", e)
	}
	return frame
}

func header(t *testing.T, generation uint64) string {
	t.Helper()
	var e wire.Enc
	e.Raw("\x00tide")
	e.Var(generation)
	return framed(t, e.Bytes())
}

func bytesOf(t *testing.T, records ...api.Record) string {
	t.Helper()
	var all strings.Builder
	for _, r := range records {
		bytes, e := wal.Encode(r)
		if e != api.OK {
			t.Fatalf("%+v has no bytes: %d", r, e)
		}
		all.WriteString(bytes)
	}
	return all.String()
}

// logged is the bytes of a log of the first generation.
func logged(t *testing.T, records ...api.Record) string {
	t.Helper()
	return header(t, 1) + bytesOf(t, records...)
}

// imageOf is the image of a state of that node that has taken these records.
func imageOf(t *testing.T, node uint32, records ...api.Record) string {
	t.Helper()
	s, e := state.Replay(node, records)
	if e != api.OK {
		t.Fatalf("%+v: %d", records, e)
	}
	return s.Image()
}

// resultOf is a result whose shards have these bytes in their slot 0.
func resultOf(disks ...string) api.Result {
	var r api.Result
	for _, bytes := range disks {
		r.Shards = append(r.Shards, api.Shown{Disk: [api.Slots]string{bytes, ""}})
	}
	return r
}

// modelWord is the word of a text, byte by byte.
func modelWord(text string) string {
	if text == "" {
		return "%"
	}
	word := ""
	for _, b := range []byte(text) {
		if b < 0x21 || b > 0x7e || b == '%' {
			word += fmt.Sprintf("%%%02x", b)
		} else {
			word += string(rune(b))
		}
	}
	return word
}

func modelStamp(s api.Stamp) string { return fmt.Sprintf("%d.%d.%d", s.Wall, s.Logical, s.Node) }

// modelLine is the line of a valid record.
func modelLine(r api.Record) string {
	of := fmt.Sprintf("%d %d %d", r.Txn.Client, r.Txn.Seq, r.Home)
	switch {
	case r.Kind == api.RecReserve:
		return fmt.Sprintf("reserve %d", r.Wall)
	case r.Kind == api.RecMark:
		return "mark " + modelStamp(r.At)
	case r.Kind == api.RecImage:
		return "image " + modelWord(r.Image)
	case r.Kind == api.RecDecide && r.Outcome == api.Committed:
		return "decide " + of + " commit " + modelStamp(r.At)
	case r.Kind == api.RecDecide:
		return "decide " + of + " abort"
	}
	line := "prepare " + of + " " + modelStamp(r.At)
	for _, s := range r.Reads {
		line += " read " + modelWord(s.Lo) + " " + modelWord(s.Hi)
	}
	for _, w := range r.Writes {
		if w.Delete {
			line += " del " + modelWord(w.Key)
		} else {
			line += " put " + modelWord(w.Key) + " " + modelWord(w.Value)
		}
	}
	return line
}

// slot is what one was made of: the header of its generation (0: of none), and records with their ends.
type slot struct {
	bytes      string
	generation uint64
	records    []api.Record
	ends       []int // how many bytes stand up to the end of the header, and of each record
}

// cut is the slot's first bytes.
func (s slot) cut(n int) slot { return slot{s.bytes[:n], s.generation, s.records, s.ends} }

// whole tells how many records are whole; -1, if the bytes hold no log.
func (s slot) whole() int {
	n := -1
	for i, end := range s.ends {
		if end <= len(s.bytes) {
			n = i
		}
	}
	if n == 0 && s.generation > 1 {
		return -1
	}
	return n
}

// modelDump is what a disk's two slots are told as, of a shard with that node.
func modelDump(first, second slot, node uint32) []string {
	counts, other, name := first, second, "slot 0"
	if first.whole() < 0 || second.whole() >= 0 && second.generation > first.generation {
		counts, other, name = second, first, "slot 1"
	}
	n := counts.whole()
	if n < 0 {
		return []string{"slot none", fmt.Sprint("other ", len(first.bytes)+len(second.bytes))}
	}
	lines := []string{name, fmt.Sprint("generation ", counts.generation)}
	for _, r := range counts.records[:n] {
		lines = append(lines, modelLine(r))
	}
	lines = append(lines, fmt.Sprint("torn ", len(counts.bytes)-counts.ends[n]), fmt.Sprint("other ", len(other.bytes)))
	if counts.generation == 1 {
		node = 0
	}
	s := state.New(node)
	for _, r := range counts.records[:n] {
		if s.Apply(r) != api.OK {
			return append(lines, "broken")
		}
	}
	return append(lines, fmt.Sprint("ceiling ", s.Ceiling()), "watermark "+modelStamp(s.Watermark()), fmt.Sprint("held ", len(s.Held())),
		fmt.Sprint("entries ", len(s.Entries())), fmt.Sprint("versions ", len(s.Versions())))
}

// keptBy is the durable state of the shard at a place.
func keptBy(r api.Result, place int) *state.State {
	_, records := wal.Pick(r.Shards[place].Disk[0], r.Shards[place].Disk[1])
	if s, e := state.Replay(uint32(place), records); e == api.OK {
		return s
	}
	return state.New(uint32(place))
}

// modelFate follows P24.4.
func modelFate(r api.Result, shard int) []api.Entry {
	var list []api.Entry
	if shard < 0 || shard >= len(r.Shards) {
		return list
	}
	for _, h := range keptBy(r, shard).Held() {
		e := api.Entry{Txn: h.Txn, Home: h.Home}
		for place := range r.Shards {
			if decided, there := keptBy(r, place).Outcome(h.Txn); there && uint32(place) == h.Home {
				e.Outcome, e.At = decided.Outcome, decided.At
			}
		}
		list = append(list, e)
	}
	return list
}

// modelDoctor follows P24.5, sentence by sentence.
func modelDoctor(r api.Result) (api.Errno, api.Txn) {
	var all []*state.State
	var txns []api.Txn
	for place := range r.Shards {
		s := keptBy(r, place)
		all = append(all, s)
		for _, e := range s.Entries() {
			txns = append(txns, e.Txn)
		}
	}
	slices.SortFunc(txns, func(a, b api.Txn) int {
		return cmp.Or(cmp.Compare(a.Client, b.Client), cmp.Compare(a.Seq, b.Seq))
	})
	for _, t := range txns {
		for _, rule := range []struct {
			e     api.Errno
			holds func([]*state.State, api.Txn) bool
		}{{api.ErrOutcome, modelDiffers}, {api.ErrLost, modelLost}, {api.ErrHeld, modelHeld}} {
			if rule.holds(all, t) {
				return rule.e, t
			}
		}
	}
	return api.OK, api.Txn{}
}

func modelDiffers(all []*state.State, t api.Txn) bool {
	for _, one := range all {
		for _, other := range all {
			a, has := one.Outcome(t)
			b, had := other.Outcome(t)
			if has && had && (a.Outcome != b.Outcome || a.At != b.At) {
				return true
			}
		}
	}
	return false
}

func modelLost(all []*state.State, t api.Txn) bool {
	for _, one := range all {
		e, _ := one.Outcome(t)
		if e.Outcome != api.Committed {
			continue
		}
		if int(e.Home) >= len(all) {
			return true
		}
		if f, _ := all[e.Home].Outcome(t); f.Outcome != api.Committed {
			return true
		}
	}
	return false
}

func modelHeld(all []*state.State, t api.Txn) bool {
	for _, one := range all {
		for _, other := range all {
			e, _ := one.Outcome(t)
			h, holds := other.Get(t)
			if e.Outcome == api.Committed && holds && stamp.Compare(h.At, e.At) > 0 {
				return true
			}
		}
	}
	return false
}
