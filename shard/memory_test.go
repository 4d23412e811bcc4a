package shard

import (
	"slices"
	"testing"

	"tidemark/api"
	"tidemark/disk"
)

// spoil writes over all lists of messages, spare room included.
func spoil(list []api.Msg) {
	for i := range list {
		m := &list[i]
		m.Reads, m.Writes, m.Pairs = m.Reads[:cap(m.Reads)], m.Writes[:cap(m.Writes)], m.Pairs[:cap(m.Pairs)]
		for j := range m.Reads {
			m.Reads[j] = api.Span{Lo: "spoilt"}
		}
		for j := range m.Writes {
			m.Writes[j] = api.Write{Key: "spoilt"}
		}
		for j := range m.Pairs {
			m.Pairs[j] = api.Pair{Key: "spoilt"}
		}
	}
	list = list[:cap(list)]
	for i := range list {
		list[i] = api.Msg{Kind: 99}
	}
}

// P14.14: what is handed in is not changed, and not kept as it is.
func TestWhatIsHandedIn(t *testing.T) {
	s := fresh(t, config())
	roomy := func(m api.Msg) api.Msg {
		m.Reads = append(slices.Clone(m.Reads), api.Span{Lo: "spare"})[:len(m.Reads)]
		m.Writes = append(slices.Clone(m.Writes), api.Write{Key: "spare"})[:len(m.Writes)]
		return m
	}
	for _, m := range []api.Msg{roomy(prepareOf(t1, 0, at(5, 0, 2), []api.Span{k}, puts("k=x", "l"))), roomy(readOf(3, 1, at(20, 0, 2), k))} {
		before := copied(m)
		s.Deliver(m)
		s.Deliver(m)
		if !sameMsg(m, before) || m.Reads[:len(m.Reads)+1][len(m.Reads)].Lo != "spare" || m.Writes[:len(m.Writes)+1][len(m.Writes)].Key != "spare" {
			t.Errorf("%v is changed to %v", before, m)
		}
		spoil([]api.Msg{m})
	}
	wantHeld(t, "what was handed in is spoilt", s, api.Held{Txn: t1, At: at(5, 1, 0), Reads: []api.Span{k}, Writes: puts("k=x", "l")})
	wantParked(t, "what was handed in is spoilt", s, readOf(3, 1, at(20, 0, 2), k))
	s.Deliver(commitOf(t1, 0, at(6, 0, 0)))
	list := s.Sync()
	wantOut(t, "woken", list[len(list)-1:], dataOf(3, 1, at(20, 0, 2), api.OK, pairs("k=x")...))

	c := api.Config{Shards: 3, Clients: 1, Splits: append(make([]string, 0, 9), "g", "p"), Capacity: 1000}
	split := slices.Clone(c.Splits[:cap(c.Splits)])
	open(t, c, disk.New(1000))
	if !slices.Equal(c.Splits[:cap(c.Splits)], split) {
		t.Error("Open changes the configuration")
	}
}

// P14.14: writing into what is handed out changes nothing.
func TestWhatIsHandedOut(t *testing.T) {
	s := fresh(t, parking(4))
	s.Deliver(prepareOf(t2, 0, at(2, 0, 2), nil, puts("a=1", "b=2")))
	s.Deliver(commitOf(t2, 0, at(3, 0, 0)))
	s.Deliver(prepareOf(t1, 0, at(5, 0, 2), []api.Span{k, point("l")}, puts("k=x", "l")))
	for op := range uint32(3) {
		s.Deliver(readOf(3, op, at(20, 0, 2), whole))
	}
	early := s.Deliver(readOf(3, 9, at(4, 0, 2), whole))
	early = append(early, s.Sync()...)
	spoil(early)
	spoil(s.Parked())
	for range 2 { // what one answer was spoilt by must not be in the next one
		held, entries := s.Held(), s.Entries()
		wantHeld(t, "spoilt", s, api.Held{Txn: t1, At: at(5, 1, 0), Reads: []api.Span{k, point("l")}, Writes: puts("k=x", "l")})
		wantEntries(t, "spoilt", s, committed(t2, 0, at(3, 0, 0)))
		wantParked(t, "spoilt", s, readOf(3, 0, at(20, 0, 2), whole), readOf(3, 1, at(20, 0, 2), whole), readOf(3, 2, at(20, 0, 2), whole))
		clear(held[0].Reads[:cap(held[0].Reads)])
		clear(held[0].Writes[:cap(held[0].Writes)])
		clear(held[:cap(held)])
		clear(entries[:cap(entries)])
	}
	s.Deliver(commitOf(t1, 0, at(6, 0, 0)))
	out := s.Sync()
	spoil(out[1:2:2]) // one Data, with its spare room
	want := pairs("a=1", "b=2", "k=x")
	wantOut(t, "woken", out[2:], dataOf(3, 1, at(20, 0, 2), api.OK, want...), dataOf(3, 2, at(20, 0, 2), api.OK, want...))
	spoil(out)
	wantOut(t, "read again", s.Deliver(readOf(3, 9, at(20, 0, 2), whole)), dataOf(3, 9, at(20, 0, 2), api.OK, want...))
}
