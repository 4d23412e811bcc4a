package bank

import (
	"testing"

	"tidemark/api"
)

// inPhase gives a client that is at its transfer of 30 for so many a time, its act of that phase waiting; From has as much as is told.
func inPhase(p phase, begun, has int) (*client, *deal) {
	d := &deal{Transfer: there, status: waits, tries: begun}
	return &client{number: "2", todo: []*deal{d, {Transfer: back, status: waits}}, phase: p, waits: true, from: has}, d
}

func kindOf(p phase) api.OpKind {
	return [...]api.OpKind{api.OpBegin, api.OpGet, api.OpGet, api.OpPut, api.OpPut, api.OpCommit, api.OpAbort, api.OpAbort}[p]
}

// P22.4: the chapter's table, each phase with each answer.
func TestPhases(t *testing.T) {
	amount := []api.Pair{{Key: "x", Value: "30"}}
	for _, row := range []struct {
		phase    phase
		has      int
		error    api.Errno
		pairs    []api.Pair
		next     phase
		status   api.Errno // of the transfer, at its first try
		atTwenty api.Errno // at its twentieth
	}{
		{atBegin, 0, api.OK, nil, atFrom, waits, waits},
		{atBegin, 0, api.ErrExhausted, nil, atBegin, waits, tries},
		{atFrom, 0, api.OK, amount, atTo, waits, waits},
		{atFrom, 0, api.ErrBusy, nil, atDrop, waits, waits},
		{atFrom, 0, api.OK, nil, atDrop, waits, waits},
		{atFrom, 0, api.OK, []api.Pair{{Key: "x"}}, atDrop, waits, waits},
		{atFrom, 0, api.OK, []api.Pair{{Key: "x", Value: "030"}}, atDrop, waits, waits},
		{atTo, 30, api.OK, amount, atTake, waits, waits},
		{atTo, 29, api.OK, amount, atRefuse, waits, waits},
		{atTo, 30, api.OK, nil, atDrop, waits, waits},
		{atTo, 29, api.OK, nil, atDrop, waits, waits},
		{atTo, 29, api.OK, []api.Pair{{Key: "x", Value: "x"}}, atDrop, waits, waits},
		{atTo, 29, api.ErrOld, nil, atDrop, waits, waits},
		{atTake, 30, api.OK, nil, atGive, waits, waits},
		{atTake, 30, api.ErrMany, nil, atDrop, waits, waits},
		{atGive, 30, api.OK, nil, atCommit, waits, waits},
		{atGive, 30, api.ErrNone, nil, atDrop, waits, waits},
		{atCommit, 30, api.OK, nil, atBegin, api.OK, api.OK},
		{atCommit, 30, api.ErrConflict, nil, atBegin, waits, tries},
		{atDrop, 30, api.OK, nil, atBegin, waits, tries},
		{atDrop, 30, api.ErrNone, nil, atBegin, waits, tries},
		{atRefuse, 29, api.OK, nil, atBegin, funds, funds},
		{atRefuse, 29, api.ErrNone, nil, atBegin, funds, funds},
	} {
		for begun, want := range map[int]api.Errno{1: row.status, 19: row.status, 20: row.atTwenty} {
			c, d := inPhase(row.phase, begun, row.has)
			c.hear(api.Answer{Client: 2, Op: api.Op{Kind: kindOf(row.phase)}, Status: row.error, Pairs: row.pairs})
			left := 2
			if want != waits {
				left = 1
			}
			if c.phase != row.next || c.waits || d.status != want || d.tries != begun || len(c.todo) != left {
				t.Errorf("phase %d, try %d, answered %d, %v: phase %d, status %d, want %d, %d", row.phase, begun, row.error, row.pairs, c.phase, d.status, row.next, want)
			}
		}
	}
}

// P22.4: what From has and what To has is kept apart.
func TestWhatAccountsHave(t *testing.T) {
	c, _ := inPhase(atFrom, 1, 0)
	for _, value := range []string{"45", "7"} {
		c.hear(api.Answer{Op: api.Op{Kind: api.OpGet}, Pairs: []api.Pair{{Key: "x", Value: value}}})
	}
	for _, want := range []string{"put 2 a 15", "put 2 z 37", "commit 2"} {
		if got := c.act("t"); got != want {
			t.Errorf("the act is %q, want %q", got, want)
		}
		c.hear(api.Answer{Op: api.Op{Kind: api.OpPut}})
	}
}

// P22.4: a kill in each phase, with the act waiting or still to be done, at the first try and at the twentieth.
func TestKilledInEachPhase(t *testing.T) {
	for p := atBegin; p <= atRefuse; p++ {
		for _, begun := range []int{1, 19, 20} {
			for _, waiting := range []bool{false, true} {
				c, d := inPhase(p, begun, 30)
				c.waits = waiting
				c.killed()
				want := waits
				switch {
				case p == atCommit && waiting:
					want = lost
				case p != atBegin && begun == 20:
					want = tries
				}
				if c.phase != atBegin || c.waits || d.status != want || d.tries != begun {
					t.Errorf("killed in phase %d, try %d, waiting %v: phase %d, status %d, want %d", p, begun, waiting, c.phase, d.status, want)
				}
			}
		}
	}
}
