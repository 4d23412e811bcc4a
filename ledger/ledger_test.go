package ledger

import (
	"slices"
	"testing"

	"tidemark/api"
)

const (
	topWall   = 1<<64 - 1
	topNumber = 1<<32 - 1
)

var (
	none = api.Stamp{}
	end  = at(topWall, topNumber, topNumber)
)

func id(client, seq uint32) api.Txn { return api.Txn{Client: client, Seq: seq} }

func at(wall uint64, logical, node uint32) api.Stamp {
	return api.Stamp{Wall: wall, Logical: logical, Node: node}
}

func commit(txn api.Txn, home uint32, when api.Stamp) api.Entry {
	return api.Entry{Txn: txn, Home: home, Outcome: api.Committed, At: when}
}

func abort(txn api.Txn, home uint32) api.Entry {
	return api.Entry{Txn: txn, Home: home, Outcome: api.Aborted}
}

// holding is a ledger in which these stand.
func holding(t *testing.T, list ...api.Entry) *Ledger {
	t.Helper()
	l := New()
	for _, e := range list {
		wantDecide(t, l, e, e, api.OK)
	}
	return l
}

func wantDecide(t *testing.T, l *Ledger, e, stands api.Entry, want api.Errno) {
	t.Helper()
	if got, no := l.Decide(e); got != stands || no != want {
		t.Errorf("Decide(%v) = %v, %d, want %v, %d", e, got, no, stands, want)
	}
}

func wantOutcome(t *testing.T, l *Ledger, txn api.Txn, want api.Entry, there bool) {
	t.Helper()
	if got, ok := l.Outcome(txn); got != want || ok != there {
		t.Errorf("Outcome(%v) = %v, %v, want %v, %v", txn, got, ok, want, there)
	}
}

func wantCommits(t *testing.T, l *Ledger, home uint32, want ...api.Entry) {
	t.Helper()
	if got := l.Commits(home); !slices.Equal(got, want) {
		t.Errorf("Commits(%d) = %v, want %v", home, got, want)
	}
}

// wantAll holds a ledger against all that must stand in it, by transaction.
func wantAll(t *testing.T, l *Ledger, want ...api.Entry) {
	t.Helper()
	if got := l.Entries(); !slices.Equal(got, want) {
		t.Errorf("Entries() = %v, want %v", got, want)
	}
	if got := l.Len(); got != len(want) {
		t.Errorf("Len() = %d, want %d", got, len(want))
	}
	for _, e := range want {
		wantOutcome(t, l, e.Txn, e, true)
	}
}

func wantDiffer(t *testing.T, list []*Ledger, want ...api.Txn) {
	t.Helper()
	if got := Differ(list...); !slices.Equal(got, want) {
		t.Errorf("Differ of %d ledgers = %v, want %v", len(list), got, want)
	}
}

func ledgers(list ...*Ledger) []*Ledger { return list }

// P11.2 to P11.8: the chapter's examples, one behind the other.
func TestTheExamples(t *testing.T) {
	t1, t2, t3 := id(9, 1), id(9, 2), id(8, 7)
	s, u := at(5, 0, 1), at(4, 2, 0)
	l := New()
	first, second, third := commit(t2, 0, s), abort(t1, 1), commit(t3, 0, u)
	wantDecide(t, l, first, first, api.OK)
	wantDecide(t, l, commit(t2, 3, s), first, api.OK)
	wantDecide(t, l, abort(t2, 0), first, api.ErrOutcome)
	wantDecide(t, l, commit(t2, 0, u), first, api.ErrOutcome)
	wantDecide(t, l, second, second, api.OK)
	wantDecide(t, l, commit(t1, 0, s), second, api.ErrOutcome)
	wantDecide(t, l, api.Entry{Txn: t3, Outcome: api.Aborted, At: s}, api.Entry{}, api.ErrArg)
	wantDecide(t, l, api.Entry{Txn: t3}, api.Entry{}, api.ErrArg)
	wantOutcome(t, l, t3, api.Entry{}, false)
	wantDecide(t, l, third, third, api.OK)
	wantAll(t, l, third, second, first)
	wantCommits(t, l, 0, third, first)
	wantCommits(t, l, 1)
	other := holding(t, commit(t2, 5, s), commit(t1, 1, u))
	wantDiffer(t, ledgers(l, other), t1)
}

// P11.1
func TestANewLedgerHasNoEntry(t *testing.T) {
	for _, l := range ledgers(New(), &Ledger{}) {
		wantAll(t, l)
		wantCommits(t, l, 0)
		wantOutcome(t, l, api.Txn{}, api.Entry{}, false)
		wantOutcome(t, l, id(1, 1), api.Entry{}, false)
		wantDiffer(t, ledgers(l, l))
		e := commit(id(1, 1), 2, at(3, 0, 0))
		wantDecide(t, l, e, e, api.OK)
		wantAll(t, l, e)
	}
}

// P11.1: and what stands in one does not stand in another.
func TestLedgersAreApart(t *testing.T) {
	first, second := holding(t, commit(id(1, 1), 0, at(5, 0, 0)), abort(id(1, 2), 0)), New()
	wantAll(t, second)
	wantDecide(t, second, abort(id(1, 1), 3), abort(id(1, 1), 3), api.OK)
	wantAll(t, second, abort(id(1, 1), 3))
	wantAll(t, first, commit(id(1, 1), 0, at(5, 0, 0)), abort(id(1, 2), 0))
}

// P11.2: with the ids, homes and stamps at their ends.
func TestWhatMayBe(t *testing.T) {
	for _, e := range []api.Entry{
		commit(id(0, 0), 0, none), commit(id(1, 0), 2, at(1, 0, 0)), commit(id(0, 1), topNumber, end), commit(id(topNumber, topNumber), 1, at(topWall, 0, 0)),
		commit(id(1, 1), 0, at(0, 0, 1)), commit(id(1, 1), 0, at(0, 1, 0)),
		abort(id(0, 0), 0), abort(id(3, 0), topNumber), abort(id(topNumber, topNumber), 0),
	} {
		l := New()
		wantDecide(t, l, e, e, api.OK)
		wantAll(t, l, e)
	}
}

// mayNotBe gives entries of one transaction that are none.
func mayNotBe(txn api.Txn) []api.Entry {
	list := []api.Entry{
		{Txn: txn, Outcome: api.Aborted, At: at(1, 0, 0)}, {Txn: txn, Outcome: api.Aborted, At: at(0, 1, 0)}, {Txn: txn, Outcome: api.Aborted, At: at(0, 0, 1)}, {Txn: txn, Outcome: api.Aborted, At: end},
	}
	for _, o := range []api.Outcome{0, 3, 4, -1, -2, 1 << 32, 1<<32 + 1, 1<<62 + 2, -1 << 63} {
		list = append(list, api.Entry{Txn: txn, Outcome: o}, api.Entry{Txn: txn, Home: 1, Outcome: o, At: at(5, 0, 1)})
	}
	return list
}

// P11.2: whether the transaction has an outcome already or not.
func TestWhatMayNotBeIsRefused(t *testing.T) {
	first, second := commit(id(2, 1), 1, at(5, 0, 1)), abort(id(2, 2), 1)
	l := holding(t, first, second)
	for _, txn := range []api.Txn{first.Txn, second.Txn, id(2, 3), id(0, 0), id(topNumber, 0)} {
		for _, e := range mayNotBe(txn) {
			wantDecide(t, l, e, api.Entry{}, api.ErrArg)
		}
	}
	wantAll(t, l, first, second)
	wantCommits(t, l, 1, first)
	wantOutcome(t, l, id(2, 3), api.Entry{}, false)
	late := commit(id(2, 3), 0, at(1, 0, 0))
	wantDecide(t, l, late, late, api.OK)
}

// P11.2, P11.3: every entry that comes behind the first one, with the home that stands or another.
func TestTheFirstOutcomeStands(t *testing.T) {
	txn, when := id(2, 1), at(5, 6, 7)
	others := []api.Stamp{none, at(4, 6, 7), at(6, 6, 7), at(5, 5, 7), at(5, 7, 7), at(5, 6, 6), at(5, 6, 8), end}
	for _, home := range []uint32{0, 1, 4, topNumber} {
		first := commit(txn, 1, when)
		l := holding(t, first)
		wantDecide(t, l, commit(txn, home, when), first, api.OK)
		wantDecide(t, l, abort(txn, home), first, api.ErrOutcome)
		for _, other := range others {
			wantDecide(t, l, commit(txn, home, other), first, api.ErrOutcome)
		}
		wantAll(t, l, first)

		first = abort(txn, 1)
		l = holding(t, first)
		wantDecide(t, l, abort(txn, home), first, api.OK)
		for _, other := range others {
			wantDecide(t, l, commit(txn, home, other), first, api.ErrOutcome)
		}
		wantAll(t, l, first)
		wantCommits(t, l, home)
	}
}

// P11.2: a commit at the zero stamp is no abort.
func TestACommitAtTheZeroStamp(t *testing.T) {
	txn := id(2, 1)
	l := holding(t, commit(txn, 1, none))
	wantDecide(t, l, abort(txn, 1), commit(txn, 1, none), api.ErrOutcome)
	wantDecide(t, l, commit(txn, 2, none), commit(txn, 1, none), api.OK)
	wantAll(t, l, commit(txn, 1, none))
	wantCommits(t, l, 1, commit(txn, 1, none))
	wantDiffer(t, ledgers(l, holding(t, abort(txn, 1))), txn)
}

// P11.4, P11.2: both numbers of an id count.
func TestTransactionsAreToldApart(t *testing.T) {
	list := []api.Entry{abort(id(0, 0), 1), commit(id(0, 1), 2, at(3, 0, 0)), commit(id(1, 0), 3, at(3, 0, 0)), abort(id(1, 1), 4)}
	l := holding(t, list...)
	wantAll(t, l, list...)
	for _, txn := range []api.Txn{id(0, 2), id(2, 0), id(1, 2), id(2, 1), id(topNumber, topNumber)} {
		wantOutcome(t, l, txn, api.Entry{}, false)
	}
}

// P11.5: by Client, then by Seq, as numbers without sign, however they came.
func TestEntriesAreInTheOrderOfTheirTransactions(t *testing.T) {
	var want []api.Entry
	numbers := []uint32{0, 1, 2, 10, 1<<31 - 1, 1 << 31, topNumber}
	for _, client := range numbers {
		for _, seq := range numbers {
			want = append(want, commit(id(client, seq), topNumber-seq, at(topWall-uint64(client), 0, 0)))
		}
	}
	for i := range len(want) {
		l := New()
		for k := range want {
			e := want[(i+5*k)%len(want)] // 5 and 49 have no divisor in common: each comes once
			wantDecide(t, l, e, e, api.OK)
		}
		wantAll(t, l, want...)
	}
}

// P11.6: by At, as stamps are ordered, and those of one At by transaction.
func TestCommitsAreInTheOrderOfTheirStamps(t *testing.T) {
	want := []api.Entry{
		commit(id(9, 9), 4, none), commit(id(9, 8), 4, at(0, 0, 1)), commit(id(9, 7), 4, at(0, 1, 0)), commit(id(9, 6), 4, at(1, 0, 0)),
		commit(id(0, 9), 4, at(5, 0, 1)), commit(id(1, 0), 4, at(5, 0, 1)), commit(id(1, 1), 4, at(5, 0, 1)), commit(id(1<<31, 0), 4, at(5, 0, 1)), commit(id(topNumber, 0), 4, at(5, 0, 1)),
		commit(id(0, 1), 4, at(5, 0, 2)), commit(id(0, 2), 4, at(5, 1<<31, 0)), commit(id(0, 0), 4, at(1<<63, 0, 0)), commit(id(0, 3), 4, end),
	}
	for i := range want {
		l := holding(t, commit(id(7, 1), 3, at(5, 0, 1)), abort(id(7, 2), 4), commit(id(7, 3), 5, none), abort(id(7, 4), 3))
		for k := range want {
			e := want[(i+5*k)%len(want)] // 5 and 13 have no divisor in common: each comes once
			wantDecide(t, l, e, e, api.OK)
		}
		wantCommits(t, l, 4, want...)
		wantCommits(t, l, 3, commit(id(7, 1), 3, at(5, 0, 1)))
		wantCommits(t, l, 5, commit(id(7, 3), 5, none))
		wantCommits(t, l, 0)
		wantCommits(t, l, topNumber)
	}
}

// P11.6: the home is the one that stands.
func TestCommitsGoByTheHomeThatStands(t *testing.T) {
	e := commit(id(2, 1), 1, at(5, 0, 0))
	l := holding(t, e)
	wantDecide(t, l, commit(id(2, 1), 2, at(5, 0, 0)), e, api.OK)
	wantCommits(t, l, 1, e)
	wantCommits(t, l, 2)
}

// P11.7: what is told again or refused is not counted.
func TestLenCountsWhatStands(t *testing.T) {
	l := New()
	for i := range uint32(200) {
		l.Decide(abort(id(1, i), i))
		l.Decide(abort(id(1, i), 0))
		l.Decide(commit(id(1, i/2), i, at(1, 0, i)))
		l.Decide(api.Entry{Txn: id(2, i)})
		if got, want := l.Len(), int(i)+1; got != want {
			t.Fatalf("behind %d: Len() = %d", want, got)
		}
	}
}
