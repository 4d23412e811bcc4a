package ledger

import (
	"math/rand"
	"slices"
	"testing"

	"tidemark/api"
)

// model says by a plain list, in the order in which they were laid down, what a ledger must answer.
type model []api.Entry

// number makes ids and stamps of small parts comparable: their order is that of the numbers.
func number(high, low uint32) uint64 { return uint64(high)<<32 | uint64(low) }

func txnNumber(txn api.Txn) uint64 { return number(txn.Client, txn.Seq) }

func stampNumber(s api.Stamp) uint64 { return number(uint32(s.Wall), s.Logical<<16|s.Node) }

func (m model) find(txn api.Txn) int {
	return slices.IndexFunc(m, func(e api.Entry) bool { return e.Txn == txn })
}

func (m *model) decide(e api.Entry) (api.Entry, api.Errno) {
	if e.Outcome != api.Committed && (e.Outcome != api.Aborted || stampNumber(e.At) != 0) {
		return api.Entry{}, api.ErrArg
	}
	i := m.find(e.Txn)
	if i < 0 {
		*m = append(*m, e)
		return e, api.OK
	}
	f := (*m)[i]
	if f.Outcome != e.Outcome || stampNumber(f.At) != stampNumber(e.At) {
		return f, api.ErrOutcome
	}
	return f, api.OK
}

// rising puts each entry behind those that it is above.
func rising(list []api.Entry, above func(a, b api.Entry) bool) []api.Entry {
	var sorted []api.Entry
	for _, e := range list {
		place := 0
		for place < len(sorted) && above(e, sorted[place]) {
			place++
		}
		sorted = slices.Insert(sorted, place, e)
	}
	return sorted
}

func aboveByTxn(a, b api.Entry) bool { return txnNumber(a.Txn) > txnNumber(b.Txn) }

func aboveByStamp(a, b api.Entry) bool {
	if stampNumber(a.At) != stampNumber(b.At) {
		return stampNumber(a.At) > stampNumber(b.At)
	}
	return aboveByTxn(a, b)
}

func (m model) commits(home uint32) []api.Entry {
	var list []api.Entry
	for _, e := range m {
		if e.Home == home && e.Outcome == api.Committed {
			list = append(list, e)
		}
	}
	return rising(list, aboveByStamp)
}

func parted(a, b api.Entry) bool { return a.Outcome != b.Outcome || a.At != b.At }

// differ holds, of each transaction that may be drawn, every two entries against each other.
func differ(list []model) []api.Txn {
	var found []api.Txn
	for client := range uint32(drawnIDs) {
		for seq := range uint32(drawnIDs) {
			var said []api.Entry
			for _, m := range list {
				if i := m.find(id(client, seq)); i >= 0 {
					said = append(said, m[i])
				}
			}
			if slices.ContainsFunc(said, func(a api.Entry) bool {
				return slices.ContainsFunc(said, func(b api.Entry) bool { return parted(a, b) })
			}) {
				found = append(found, id(client, seq))
			}
		}
	}
	return found
}

const drawnIDs = 4

func drawID(r *rand.Rand) api.Txn {
	return id(uint32(r.Intn(drawnIDs)), uint32(r.Intn(drawnIDs)))
}

func drawStamp(r *rand.Rand) api.Stamp {
	return at(uint64(r.Intn(2)), uint32(r.Intn(2)), uint32(r.Intn(2)))
}

// drawEntry gives mostly entries that may be, aborted ones as often as committed ones.
func drawEntry(r *rand.Rand) api.Entry {
	e := api.Entry{Txn: drawID(r), Home: uint32(r.Intn(3)), Outcome: []api.Outcome{0, api.Committed, api.Committed, api.Committed, api.Aborted, api.Aborted, api.Aborted, 3}[r.Intn(8)], At: drawStamp(r)}
	if e.Outcome == api.Aborted && r.Intn(4) > 0 {
		e.At = none
	}
	return e
}

// wantAlike holds a ledger against the model, by every question.
func wantAlike(t *testing.T, l *Ledger, m model) {
	t.Helper()
	wantAll(t, l, rising(m, aboveByTxn)...)
	for home := range uint32(4) {
		wantCommits(t, l, home, m.commits(home)...)
	}
	for client := range uint32(drawnIDs + 1) {
		for seq := range uint32(drawnIDs + 1) {
			if m.find(id(client, seq)) < 0 {
				wantOutcome(t, l, id(client, seq), api.Entry{}, false)
			}
		}
	}
}

// P11.2 to P11.7: whatever comes, what stands stands.
func TestLivesAreAsTheModelSays(t *testing.T) {
	answers := map[api.Errno]int{}
	for seed := range int64(300) {
		r := rand.New(rand.NewSource(seed))
		l, m := New(), model{}
		for step := range 40 {
			e := drawEntry(r)
			stands, want := m.decide(e)
			answers[want]++
			wantDecide(t, l, e, stands, want)
			wantAlike(t, l, m)
			if t.Failed() {
				t.Fatalf("seed %d, step %d", seed, step)
			}
		}
	}
	for _, no := range []api.Errno{api.OK, api.ErrArg, api.ErrOutcome} {
		if answers[no] < 1000 {
			t.Errorf("%d is answered %d times: too few to tell anything", no, answers[no])
		}
	}
}

// drawLives gives some ledgers with their models, a nil among them now and then.
func drawLives(r *rand.Rand) ([]*Ledger, []model) {
	var list []*Ledger
	var models []model
	for range r.Intn(5) {
		if r.Intn(6) == 0 {
			list, models = append(list, nil), append(models, nil)
			continue
		}
		l, m := New(), model{}
		for range r.Intn(12) {
			e := drawEntry(r)
			l.Decide(e)
			m.decide(e)
		}
		list, models = append(list, l), append(models, m)
	}
	return list, models
}

// P11.8
func TestDifferIsAsTheModelSays(t *testing.T) {
	most := 0
	for seed := range int64(2000) {
		list, models := drawLives(rand.New(rand.NewSource(seed)))
		want := differ(models)
		wantDiffer(t, list, want...)
		for i, l := range list {
			if l != nil {
				wantAlike(t, l, models[i])
			}
		}
		if t.Failed() {
			t.Fatalf("seed %d", seed)
		}
		most = max(most, len(want))
	}
	if most < 6 {
		t.Errorf("at most %d differ at a time: too few to tell anything", most)
	}
}

// spoil overwrites a list with its spare room.
func spoil[E any](list []E, with E) {
	list = list[:cap(list)]
	for i := range list {
		list[i] = with
	}
}

// The chapter's 'new memory', of every list that is told.
func TestAnswersAreNewMemory(t *testing.T) {
	list := []api.Entry{commit(id(1, 1), 4, at(3, 0, 0)), commit(id(1, 2), 4, at(2, 0, 0)), commit(id(2, 1), 4, at(1, 0, 0)), abort(id(2, 2), 4), commit(id(3, 1), 5, none)}
	falling := []api.Entry{list[2], list[1], list[0]}
	l := holding(t, list...)
	other := holding(t, abort(id(1, 1), 0), abort(id(1, 2), 0), abort(id(2, 1), 0))
	parting := []api.Txn{id(1, 1), id(1, 2), id(2, 1)}
	entries, commits, ids := l.Entries(), l.Commits(4), Differ(l, other)
	spoil(l.Entries(), abort(id(9, 9), 9))
	spoil(l.Commits(4), abort(id(9, 9), 9))
	spoil(Differ(l, other), id(9, 9))
	wantAll(t, l, list...)
	wantCommits(t, l, 4, falling...)
	wantDiffer(t, ledgers(l, other), parting...)
	for seq := range uint32(20) {
		l.Decide(commit(id(0, seq), 4, none))
		other.Decide(abort(id(0, seq), 4))
	}
	if !slices.Equal(entries, list) || !slices.Equal(commits, falling) || !slices.Equal(ids, parting) {
		t.Errorf("earlier answers have changed: %v, %v, %v", entries, commits, ids)
	}
}

// 'Every query changes nothing': asked again, each is answered the same, and nothing stands that was only asked for.
func TestQueriesChangeNothing(t *testing.T) {
	list := []api.Entry{commit(id(1, 1), 4, at(3, 0, 0)), abort(id(1, 2), 4)}
	l, other := holding(t, list...), holding(t, abort(id(1, 1), 4), abort(id(5, 5), 4))
	for range 3 {
		wantOutcome(t, l, id(5, 5), api.Entry{}, false)
		wantCommits(t, l, 4, list[0])
		wantCommits(t, l, 7)
		wantDiffer(t, ledgers(l, other, nil), id(1, 1))
		wantAll(t, l, list...)
		wantAll(t, other, abort(id(1, 1), 4), abort(id(5, 5), 4))
	}
	wantDecide(t, l, commit(id(5, 5), 0, none), commit(id(5, 5), 0, none), api.OK)
}

// DOC.md, 'Nothing panics and everything ends'
func TestNothingPanics(t *testing.T) {
	stamps := []api.Stamp{none, at(0, 0, 1), at(5, 0, 0), at(topWall, 0, 0), end}
	numbers := []uint32{0, 1, 2, 1 << 31, topNumber}
	outcomes := []api.Outcome{0, api.Committed, api.Aborted, 3, -1, 1<<63 - 1, -1 << 63}
	r := rand.New(rand.NewSource(11))
	draw := func() uint32 { return numbers[r.Intn(len(numbers))] }
	for range 300 {
		l, other := &Ledger{}, New()
		for range 30 {
			e := api.Entry{Txn: id(draw(), draw()), Home: draw(), Outcome: outcomes[r.Intn(len(outcomes))], At: stamps[r.Intn(len(stamps))]}
			l.Outcome(e.Txn)
			l.Decide(e)
			e.Outcome = outcomes[r.Intn(len(outcomes))]
			other.Decide(e)
			l.Commits(draw())
			Differ(nil, l, other, nil, l)
			if len(l.Entries()) != l.Len() {
				t.Fatalf("Entries() tells %d, Len() = %d", len(l.Entries()), l.Len())
			}
		}
	}
}
