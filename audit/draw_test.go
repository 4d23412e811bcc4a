package audit

import (
	"math/rand"
	"slices"
	"strconv"
	"testing"

	"tidemark/api"
	"tidemark/cluster"
	"tidemark/token"
)

// dice draws results, and scripts.
type dice struct{ *rand.Rand }

func newDice(seed int64) dice { return dice{rand.New(rand.NewSource(seed))} }

func (d dice) pick(list ...string) string { return list[d.Intn(len(list))] }

func (d dice) txn() api.Txn {
	return api.Txn{Client: uint32(2 + d.Intn(2)), Seq: uint32(1 + d.Intn(3))}
}

func (d dice) stamp() api.Stamp {
	return api.Stamp{Wall: uint64(d.Intn(6)), Logical: uint32(d.Intn(2)), Node: uint32(d.Intn(2))}
}

func (d dice) key() string { return d.pick("a", "a", "b", "b", "a\x00", "", "\xff", "c") }

func (d dice) status() api.Errno {
	if d.Intn(5) > 0 {
		return api.OK
	}
	return []api.Errno{api.ErrNone, api.ErrWait, api.ErrConflict, api.ErrBusy, -1}[d.Intn(5)]
}

// kind draws an operation's kind, also ones that there are not; most are reads and writes.
func (d dice) kind() api.OpKind {
	return []api.OpKind{0, 8, api.OpBegin, api.OpGet, api.OpGet, api.OpScan, api.OpScan, api.OpScan, api.OpPut, api.OpPut, api.OpPut, api.OpDelete, api.OpCommit, api.OpCommit, api.OpAbort}[d.Intn(15)]
}

func (d dice) op() api.Op {
	op := api.Op{Kind: d.kind(), Key: d.key(), Value: d.pick("1", "2", "3", ""), Limit: max(0, d.Intn(7)-4)}
	switch d.Intn(8) {
	case 0:
		op.Hi = d.key()
	case 1:
		op.Back = true
	case 2:
		op.Back, op.Key, op.Hi = true, "", ""
	case 3:
		op.Limit = -1
	}
	if d.Intn(3) == 0 {
		op.AsOf = d.Intn(2) == 0
		op.Token = d.pick("x", token.Encode(d.stamp()), token.Encode(d.stamp()))
	}
	return op
}

// result draws any result: one that nobody would answer, mostly.
func (d dice) result() api.Result {
	var r api.Result
	for range d.Intn(8) {
		e := api.Entry{Txn: d.txn(), Home: uint32(d.Intn(3)), Outcome: api.Committed, At: d.stamp()}
		if d.Intn(6) == 0 {
			e.Outcome = api.Outcome(d.Intn(4))
		}
		r.Commits = append(r.Commits, e)
	}
	for range d.Intn(12) {
		a := api.Answer{Client: uint32(d.Intn(4)), Txn: d.txn(), Op: d.op(), Status: d.status(), At: d.stamp()}
		r.Events = append(r.Events, api.Event{Asked: d.Intn(9), Answered: d.Intn(9), Answer: a})
	}
	return r
}

// mend makes most of what a drawn result has wrong right, so that Check comes further.
func (d dice) mend(r *api.Result) {
	var apart []api.Entry
	for _, e := range r.Commits {
		same := func(f api.Entry) bool { return e.Txn == f.Txn || e.At == f.At }
		if !slices.ContainsFunc(apart, same) || d.Intn(20) == 0 {
			apart = append(apart, e)
		}
	}
	r.Commits = apart
	for place := range r.Events {
		if d.Intn(10) == 0 {
			continue
		}
		a := &r.Events[place].Answer
		at, there := committedAt(*r, a.Txn)
		switch {
		case a.Op.Kind == api.OpBegin && a.Op.Token != "" && d.Intn(2) == 0:
			a.At.Wall += 6
		case a.Op.Kind == api.OpBegin && a.Op.Token != "":
			a.Op.Token = ""
		case a.Op.Kind == api.OpCommit && there:
			a.Status, a.At = api.OK, at
		case a.Op.Kind == api.OpCommit && len(modelWrites(r.Events, a.Txn)) > 0:
			a.Status = api.ErrStale
		case a.Op.Kind == api.OpAbort && there:
			a.Status = api.ErrWait
		case isRead(*a) && there && d.Intn(4) == 0:
			a.Pairs = modelSerial(*r, place, at)
		case isRead(*a):
			a.Pairs = modelSnapshot(*r, place)
		}
		if a.Op.Kind == api.OpCommit && a.Status == api.OK {
			a.Token = token.Encode(a.At)
		}
	}
}

func committedAt(r api.Result, txn api.Txn) (api.Stamp, bool) {
	i := slices.IndexFunc(r.Commits, func(e api.Entry) bool { return counts(e) && e.Txn == txn })
	if i < 0 {
		return api.Stamp{}, false
	}
	return r.Commits[i].At, true
}

// wantModel holds all calls to the model, and tells what Check says.
func wantModel(t *testing.T, d dice, r api.Result) (api.Errno, int) {
	t.Helper()
	for range 3 {
		txn, s, at := d.txn(), api.Span{Lo: d.pick("", d.key()), Hi: d.pick("", d.key())}, d.stamp()
		if got, want := Writes(r, txn), modelWrites(r.Events, txn); !slices.Equal(got, want) {
			t.Fatalf("Writes of %v are %v, want %v, in %+v", txn, got, want, r)
		}
		want := modelPairs(modelState(r, func(text string) bool { return text <= order(at) }), s.Lo, s.Hi)
		if got := State(r, s, at); !slices.Equal(got, want) {
			t.Fatalf("State of %q at %v is %q, want %q, in %+v", s, at, got, want, r)
		}
	}
	e, place := Check(r)
	if f, want := modelCheck(r); e != f || place != want {
		t.Fatalf("Check says %d, %d, want %d, %d, of %+v", e, place, f, want, r)
	}
	return e, place
}

func wantSeen(t *testing.T, seen map[string]int, names ...string) {
	t.Helper()
	for _, name := range names {
		if seen[name] < 20 {
			t.Errorf("drawn too seldom: %s (%v)", name, seen)
		}
	}
}

// P18.1 to P18.4: any results, beside the model.
func TestAnyResults(t *testing.T) {
	seen := map[string]int{}
	for seed := range int64(6000) {
		d := newDice(seed)
		r := d.result()
		if seed%4 > 0 {
			d.mend(&r)
		}
		e, place := wantModel(t, d, r)
		name := strconv.Itoa(int(e))
		if e == api.OK && len(r.Events) > 4 && len(r.Commits) > 2 {
			name += " of much"
		}
		if place > 3 {
			name += " late"
		}
		seen[name]++
	}
	wantSeen(t, seen, "0 of much", "180 late", "181 late", "182", "183 late", "184 late", "185 late", "182 late")
}

const config = "shards 2\nclients 3\ncapacity 1048576\npark 4\nwindow 10\nsplit m\n"

// run draws a run of a cluster: clients that go on beside one another, with crashes and losses among them.
func (d dice) run() api.Result {
	c, _ := cluster.Start(config)
	for range 60 + d.Intn(120) {
		client := " " + strconv.Itoa(2+d.Intn(3))
		key := d.pick("a", "b", "m", "z")
		switch d.Intn(15) {
		case 0, 1:
			c.Step("begin" + client + " " + d.pick("rw", "rw", "rw", "ro", "at") + " " + d.pick("%", "@2", "@3", "@4"))
		case 2:
			c.Step("get" + client + " " + key)
		case 3:
			c.Step(d.pick("scan", "rscan") + client + " % " + d.pick("%", "m", "z") + " " + d.pick("0", "1", "2"))
		case 4, 5:
			c.Step("put" + client + " " + key + " " + strconv.Itoa(d.Intn(100)))
		case 6:
			c.Step("del" + client + " " + key)
		case 7:
			c.Step("commit" + client)
		case 8:
			c.Step(d.pick("abort"+client, "kill"+client, "tick"+client, "tick 0", "tick 1", "save 0", "round 1"))
		case 9:
			c.Step("wall " + strconv.Itoa(d.Intn(5)) + " " + strconv.Itoa(d.Intn(30)))
		case 10:
			c.Step(d.pick("take 0", "take 1", "drop 0", "copy 0", "sync 0", "sync 1", "crash 0 0 0", "crash 1 50 50"))
		case 11:
			for _, line := range []string{"begin" + client + " rw @2", "get" + client + " " + key, "calm 0", "calm 0", "put" + client + " " + key + " x", "commit" + client} {
				c.Step(line)
			}
		default:
			c.Step("calm " + strconv.Itoa(d.Intn(3)))
		}
	}
	return c.Result()
}

// spoil changes one thing of a run, and tells what.
func (d dice) spoil(r *api.Result) string {
	if len(r.Commits) > 0 && d.Intn(3) == 0 {
		return d.spoilCommit(r, d.Intn(len(r.Commits)))
	}
	var places []int
	for i, e := range r.Events {
		if e.Answer.Status == api.OK {
			places = append(places, i)
		}
	}
	if len(places) == 0 {
		return "nothing"
	}
	a := &r.Events[places[d.Intn(len(places))]].Answer
	switch {
	case isRead(*a) && len(a.Pairs) > 0 && d.Intn(2) == 0:
		a.Pairs[d.Intn(len(a.Pairs))].Value += "x"
		return "another value"
	case isRead(*a):
		a.At = d.stamp()
		return "a read elsewhere"
	case a.Op.Kind == api.OpCommit:
		a.Status, a.Token = d.status(), token.Encode(d.stamp())
		return "another answer"
	case a.Op.Kind == api.OpPut:
		a.Op.Value += "x"
		return "another write"
	}
	a.Op.Token = token.Encode(d.stamp())
	return "another token"
}

func (d dice) spoilCommit(r *api.Result, i int) string {
	c := &r.Commits[i]
	switch d.Intn(5) {
	case 0:
		r.Commits = slices.Delete(r.Commits, i, i+1)
		return "a commit less"
	case 1:
		c.At.Wall += uint64(1 + d.Intn(9))
		return "a commit elsewhere"
	case 2:
		c.Txn = d.txn()
		return "another one's commit"
	}
	c.At.Wall += 100
	for i := range r.Events {
		if a := &r.Events[i].Answer; a.Txn == c.Txn && a.Op.Kind == api.OpCommit && a.Status == api.OK {
			a.At, a.Token = c.At, token.Encode(c.At)
		}
	}
	return "a commit later"
}

// P18.4: nothing is wrong with what a cluster tells (DOC's P0.1 to P0.4), and much with what is changed in it.
func TestRuns(t *testing.T) {
	seen := map[string]int{}
	for seed := range int64(600) {
		d := newDice(seed)
		r := d.run()
		if e, place := wantModel(t, d, r); e != api.OK || place != 0 {
			t.Fatalf("seed %d: Check says %d, %d of %+v", seed, e, place, r)
		}
		for _, e := range r.Events {
			if isRead(e.Answer) && len(e.Answer.Pairs) > 0 {
				seen["read"]++
			}
			if len(Writes(r, e.Answer.Txn)) > 0 && e.Answer.Op.Kind == api.OpCommit && e.Answer.Status == api.OK {
				seen["committed"]++
			}
		}
		what := d.spoil(&r)
		if e, _ := wantModel(t, d, r); e != api.OK {
			seen[strconv.Itoa(int(e))]++
		} else {
			seen["still right: "+what]++
		}
	}
	wantSeen(t, seen, "read", "committed", "184")
	for _, name := range []string{"180", "181", "183", "185"} {
		if seen[name] == 0 {
			t.Errorf("drawn never: %s (%v)", name, seen)
		}
	}
}
