package ledger

import (
	"slices"
	"testing"

	"tidemark/api"
)

// P11.8: any two of the ledgers, whichever stands first.
func TestDifferOfTwo(t *testing.T) {
	txn := id(2, 1)
	for _, c := range []struct {
		a, b   api.Entry
		differ bool
	}{
		{commit(txn, 0, at(5, 0, 1)), commit(txn, 0, at(5, 0, 1)), false}, {commit(txn, 0, at(5, 0, 1)), commit(txn, 9, at(5, 0, 1)), false},
		{abort(txn, 0), abort(txn, 0), false}, {abort(txn, 0), abort(txn, 9), false},
		{commit(txn, 0, at(5, 0, 1)), commit(txn, 0, at(6, 0, 1)), true}, {commit(txn, 0, at(5, 0, 1)), commit(txn, 0, at(5, 1, 1)), true}, {commit(txn, 0, at(5, 0, 1)), commit(txn, 9, at(5, 0, 2)), true},
		{commit(txn, 0, at(5, 0, 1)), abort(txn, 0), true}, {commit(txn, 0, none), abort(txn, 0), true},
		{commit(txn, 0, at(5, 0, 1)), commit(id(2, 2), 0, at(6, 0, 1)), false}, {commit(txn, 0, at(5, 0, 1)), abort(id(3, 1), 0), false},
	} {
		var want []api.Txn
		if c.differ {
			want = append(want, txn)
		}
		a, b := holding(t, c.a), holding(t, c.b)
		wantDiffer(t, ledgers(a, b), want...)
		wantDiffer(t, ledgers(b, a), want...)
		wantDiffer(t, ledgers(a, nil, New(), b), want...)
		wantDiffer(t, ledgers(a, a, a, b), want...)
		wantDiffer(t, ledgers(nil, b, a, b, &Ledger{}), want...)
		wantAll(t, a, c.a)
		wantAll(t, b, c.b)
	}
}

// P11.8
func TestFewLedgersDoNotDiffer(t *testing.T) {
	l := holding(t, commit(id(2, 1), 0, at(5, 0, 1)), abort(id(2, 2), 0))
	for _, list := range [][]*Ledger{nil, {}, {nil}, {l}, {nil, nil}, {nil, l}, {l, nil}, {l, l}, {l, nil, l}, {l, New()}, {New(), l, &Ledger{}}} {
		wantDiffer(t, list)
	}
}

// P11.8: two that differ stand behind others that agree, or say nothing.
func TestDifferOfMany(t *testing.T) {
	same := commit(id(1, 1), 0, at(5, 0, 1))
	list := ledgers(
		holding(t, same), holding(t, same, abort(id(4, 1), 0)), nil,
		holding(t, abort(id(3, 1), 1)), holding(t, same, commit(id(3, 1), 2, at(7, 0, 1))),
		holding(t, commit(id(4, 1), 0, none), commit(id(2, 9), 0, at(1, 0, 0))), holding(t, abort(id(2, 9), 0), abort(id(4, 1), 0)))
	want := []api.Txn{id(2, 9), id(3, 1), id(4, 1)}
	for i := range list {
		wantDiffer(t, append(slices.Clone(list[i:]), list[:i]...), want...)
	}
	wantDiffer(t, append(slices.Clone(list), list...), want...)
	wantDiffer(t, list[:4])
	wantDiffer(t, list[:5], id(3, 1))
	three := ledgers(holding(t, commit(id(1, 1), 0, at(1, 0, 0))), holding(t, commit(id(1, 1), 0, at(2, 0, 0))), holding(t, commit(id(1, 1), 0, at(3, 0, 0))))
	wantDiffer(t, three, id(1, 1))
}

// P11.8: by Client, then by Seq, as numbers without sign.
func TestDifferIsInTheOrderOfTheTransactions(t *testing.T) {
	var want []api.Txn
	a, b := New(), New()
	for _, client := range []uint32{0, 1, 2, 10, 1<<31 - 1, 1 << 31, topNumber} {
		for _, seq := range []uint32{0, 1, 2, 10, 1<<31 - 1, 1 << 31, topNumber} {
			want = append(want, id(client, seq))
			a.Decide(commit(id(client, seq), 0, at(1, 0, 0)))
		}
	}
	for i := range want {
		b.Decide(commit(want[(5*i)%len(want)], 0, at(2, 0, 0)))
	}
	for range 20 {
		wantDiffer(t, ledgers(a, b), want...)
	}
}

// P11.8, DOC.md, 'Lists': the list of ledgers is not changed, its spare room neither.
func TestDifferLeavesItsListAsItIs(t *testing.T) {
	a, b, spare := holding(t, abort(id(1, 1), 0)), holding(t, commit(id(1, 1), 0, none)), New()
	list := ledgers(b, nil, a, b, spare)
	wantDiffer(t, list[:4], id(1, 1))
	if !slices.Equal(list, ledgers(b, nil, a, b, spare)) {
		t.Errorf("the list has changed: %v", list)
	}
}
