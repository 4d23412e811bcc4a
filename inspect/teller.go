package inspect

import (
	"tidemark/api"
	"tidemark/route"
	"tidemark/stamp"
)

// The words of the lines.
const (
	reserveName = "reserve"
	prepareName = "prepare"
	decideName  = "decide"
	markName    = "mark"
	imageName   = "image"

	readName = "read"
	putName  = "put"
	delName  = "del"

	commitName = "commit"
	abortName  = "abort"
)

// teller is what the records of one kind are told by, and read back.
type teller interface {
	name() string               // the line's first field
	tell(r api.Record) []string // the fields behind it
	read() api.Record           // takes those fields
	end()
}

// tellers gives those of all kinds, by the kinds' numbers, which begin with RecReserve and leave none out. All read from the same fields.
func tellers(from *fields) []teller {
	return []teller{reserve{from}, prepare{from}, decide{from}, mark{from}, image{from}}
}

type reserve struct{ *fields }

func (reserve) name() string { return reserveName }

func (reserve) tell(r api.Record) []string { return []string{decimal(r.Wall)} }

func (t reserve) read() api.Record { return api.Record{Kind: api.RecReserve, Wall: t.number(64)} }

type prepare struct{ *fields }

func (prepare) name() string { return prepareName }

func (prepare) tell(r api.Record) []string {
	list := append(transactionOf(r), stamp.Text(r.At))
	for _, s := range r.Reads {
		list = append(list, readName, route.Word(s.Lo), route.Word(s.Hi))
	}
	for _, w := range r.Writes {
		if w.Delete {
			list = append(list, delName, route.Word(w.Key))
		} else {
			list = append(list, putName, route.Word(w.Key), route.Word(w.Value))
		}
	}
	return list
}

func (t prepare) read() api.Record {
	r := t.transaction(api.RecPrepare)
	r.At = t.stamp()
	for !t.ended {
		must(len(r.Reads) <= api.MaxReads && len(r.Writes) <= api.MaxWrites) // a line may be far longer than any record's
		switch t.next() {
		case readName:
			must(len(r.Writes) == 0)
			r.Reads = append(r.Reads, api.Span{Lo: t.text(), Hi: t.text()})
		case putName:
			r.Writes = append(r.Writes, api.Write{Key: t.text(), Value: t.text()})
		case delName:
			r.Writes = append(r.Writes, api.Write{Key: t.text(), Delete: true})
		default:
			must(false)
		}
	}
	return r
}

type decide struct{ *fields }

func (decide) name() string { return decideName }

func (decide) tell(r api.Record) []string {
	if r.Outcome == api.Aborted {
		return append(transactionOf(r), abortName)
	}
	return append(transactionOf(r), commitName, stamp.Text(r.At))
}

func (t decide) read() api.Record {
	r := t.transaction(api.RecDecide)
	switch t.next() {
	case commitName:
		r.Outcome, r.At = api.Committed, t.stamp()
	case abortName:
		r.Outcome = api.Aborted
	default:
		must(false)
	}
	return r
}

type mark struct{ *fields }

func (mark) name() string { return markName }

func (mark) tell(r api.Record) []string { return []string{stamp.Text(r.At)} }

func (t mark) read() api.Record { return api.Record{Kind: api.RecMark, At: t.stamp()} }

type image struct{ *fields }

func (image) name() string { return imageName }

func (image) tell(r api.Record) []string { return []string{route.Word(r.Image)} }

func (t image) read() api.Record { return api.Record{Kind: api.RecImage, Image: t.text()} }

func transactionOf(r api.Record) []string {
	return []string{decimal(uint64(r.Txn.Client)), decimal(uint64(r.Txn.Seq)), decimal(uint64(r.Home))}
}
