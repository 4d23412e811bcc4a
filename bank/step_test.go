package bank

import (
	"math"
	"reflect"
	"strings"
	"testing"

	"tidemark/api"
	"tidemark/token"
)

// P22.2: which client a line names, and what is asked first.
func TestGo(t *testing.T) {
	c := opened(t, there)
	c.steps(api.ErrLine, "go", "go ", "go  2", "go 2 ", "go 2 a", " go 2", "go 0", "go 1", "go 4", "go 02", "go +2", "go -2", "go 2\n", "go two", "go %", "go @2", "GO 2", "gone 2", "go2",
		"go 18446744073709551618", "go 4294967298", "go "+strings.Repeat("2", 500))
	c.steps(api.ErrNone, "go 3")
	if c.played() != 9 {
		t.Errorf("%d steps", c.played())
	}
	c.steps(api.OK, "go 2", "go 2")
	c.steps(waits, "go 2", "go 2")
	c.steps(api.ErrNone, "go 3")
	c.steps(api.ErrLine, "go 5")
	if c.played() != 11 {
		t.Errorf("%d steps", c.played())
	}
}

// P22.2, P22.3: a line of the cluster that it does not do is played, and a line that is none of these is not: only the first counts among those that may be played.
func TestWhatIsPlayed(t *testing.T) {
	count := func(line string) int {
		t.Helper()
		c := opened(t, there)
		c.steps(api.OK, "go 2", "go 2")
		c.b.Step(line)
		left := 0
		for c.b.Step("wall 3 1") == api.OK {
			left++
		}
		return api.MaxSteps - 9 - 2 - left
	}
	for _, line := range []string{
		"wall 2 5", "take 0", "drop 0", "copy 0", "sync 1", "tick 3", "crash 0 0 0", "mark 0 1.0.0", "save 1", "kill 2", "kill 3", "calm 3", "round 0",
		"wall", "take 7", "drop", "copy x", "sync 2", "tick 4", "crash 0 0", "mark 0", "save", "kill", "kill 1", "kill 02", "kill 2 ", "calm", "round 00", "wall  2 5",
		"calm " + strings.Repeat("0", 400),
	} {
		if n := count(line); n != 1 {
			t.Errorf("%q: %d lines are played", line, n)
		}
	}
	for _, line := range []string{
		"begin 3 rw %", "get 3 a", "scan 3 % % 0", "rscan 3 % % 0", "put 3 a 1", "del 3 a", "commit 3", "abort 3", "halt",
		"", " ", " calm 0", "Calm 0", "calm\t0", "calms 0", "cal", "\ncalm 0", "#", "go", "go 9", "go 2", "go 3", strings.Repeat("x", 500),
	} {
		if n := count(line); n != 0 {
			t.Errorf("%q: %d lines are played", line, n)
		}
	}
}

// P22.3: such a line is answered as the cluster answers it.
func TestTheClustersAnswers(t *testing.T) {
	c := opened(t, there)
	hand := byHand(t, config, openingOf(2, 100, "a", "z")...)
	for _, line := range []string{
		"wall 2 5", "wall 9 5", "tick 0", "tick 4", "sync 0", "sync 2", "calm 0", "calm", "round 9223372036854775807", "round -1", "take 0", "copy 0", "drop 0",
		"crash 0 0 0", "crash 2 0 0", "kill 2", "kill 3", "kill 1", "kill", "mark 0 7.0.0", "mark 0 6.0.0", "mark 0 18446744073709551615.0.0", "mark 0 x", "save 0", "save 0", "sync 0", "save 0", "save 3",
	} {
		got, want := c.b.Step(line), hand.Step(line)
		if got != want {
			t.Errorf("Step(%q) = %d, want %d", line, got, want)
		}
	}
	if got, want := c.b.Report().Result, hand.Result(); !reflect.DeepEqual(got, want) {
		t.Errorf("the cluster is %+v, want %+v", got, want)
	}
}

// P22.2: when the cluster plays no more lines nothing changes, and the act is still to be done.
func TestTheEnd(t *testing.T) {
	c := opened(t, there, back)
	c.goes("2", 5)
	c.playsAll()
	before := c.b.Report()
	c.steps(api.ErrDone, "go 2", "go 3", "go 2", "calm 0", "kill 2", "kill 3", "kill 9", "mark 0 x")
	c.steps(api.ErrLine, "go 4", "halt", "commit 2")
	if got := c.b.Report(); !reflect.DeepEqual(got, before) {
		t.Errorf("Report = %+v, want %+v", got, before)
	}
	c.told([]api.Errno{waits, waits}, 1, 0)
	if p := c.b.clients[0].phase; p != atCommit || c.b.clients[0].waits || c.b.clients[1].phase != atBegin {
		t.Errorf("client 2 is in the phase %d", p)
	}
}

// P22.2: with all transfers of a client ended ErrNone is told, also behind the last line; before the end of an operation ErrWait.
func TestRefusalsBehindTheEnd(t *testing.T) {
	c := opened(t, there)
	c.steps(api.OK, "go 2", "go 2")
	c.playsAll()
	c.steps(waits, "go 2")
	c.steps(api.ErrNone, "go 3")
}

// P22.2, P22.5: transfers are dealt round, and each client does its own in their order.
func TestDealing(t *testing.T) {
	list := []Transfer{{"a", "z", 1}, {"a", "z", 2}, {"a", "z", 3}, {"a", "z", 4}, {"a", "z", 5}}
	b, _ := Open(strings.Replace(config, "clients 2", "clients 3", 1), two, 100, list)
	c := teller{t, b}
	for _, g := range []struct {
		client string
		status []api.Errno
		left   int
	}{
		{"4", []api.Errno{waits, waits, api.OK, waits, waits}, 97},
		{"3", []api.Errno{waits, api.OK, api.OK, waits, waits}, 95},
		{"3", []api.Errno{waits, api.OK, api.OK, waits, api.OK}, 90},
		{"2", []api.Errno{api.OK, api.OK, api.OK, waits, api.OK}, 89},
		{"2", []api.Errno{api.OK, api.OK, api.OK, api.OK, api.OK}, 85},
	} {
		c.goes(g.client, 6)
		c.has(g.left, 200-g.left)
		begun := make([]int, len(list))
		for i, s := range g.status {
			if s == api.OK {
				begun[i] = 1
			}
		}
		c.told(g.status, begun...)
	}
	c.steps(api.ErrNone, "go 2", "go 3", "go 4")
}

// P22.2: the acts of a try, one by one, as the cluster gets them; accounts are words there.
func TestTheActs(t *testing.T) {
	accounts := []string{"%", "z y"}
	b, e := Open(config, accounts, 100, []Transfer{{"z y", "%", 100}, {"%", "z y", 100}, {"z y", "%", 1}})
	if e != api.OK {
		t.Fatalf("Open = %d", e)
	}
	c := teller{t, b}
	opening := c.last().Answer
	want := []api.Op{
		{Kind: api.OpBegin, Token: opening.Token},
		{Kind: api.OpGet, Key: "z y"},
		{Kind: api.OpGet, Key: "%"},
		{Kind: api.OpPut, Key: "z y", Value: "0"},
		{Kind: api.OpPut, Key: "%", Value: "200"},
		{Kind: api.OpCommit},
	}
	for _, op := range want {
		c.goes("2", 1)
		if a := c.last().Answer; a.Client != 2 || a.Op != op || a.Status != api.OK {
			t.Errorf("the act is %+v, want %+v", a, op)
		}
	}
	c.told([]api.Errno{api.OK, waits, waits}, 1, 0, 0)
	want = []api.Op{{Kind: api.OpBegin, Token: c.last().Answer.Token}, {Kind: api.OpGet, Key: "z y"}, {Kind: api.OpGet, Key: "%"}, {Kind: api.OpAbort}}
	for _, op := range want {
		c.goes("2", 1)
		if a := c.last().Answer; a.Client != 2 || a.Op != op || a.Status != api.OK {
			t.Errorf("the act is %+v, want %+v", a, op)
		}
	}
	c.told([]api.Errno{api.OK, waits, funds}, 1, 0, 1)
}

// P22.2: the token is the one with the greatest stamp of all commits that the bank was answered, not the last one's.
func TestTheToken(t *testing.T) {
	accounts := []string{"a", "b", "y", "z"}
	b, e := Open(config, accounts, 100, []Transfer{{"a", "b", 1}, {"y", "z", 1}, {"a", "b", 1}, {"y", "z", 1}})
	if e != api.OK {
		t.Fatalf("Open = %d", e)
	}
	c := teller{t, b}
	if s, e := token.Decode(c.b.token); e != api.OK || s != at(0, 2, 1) {
		t.Errorf("behind the opening the token is %v's", s)
	}
	c.steps(api.OK, "wall 3 500")
	c.goes("2", 5)
	c.goes("3", 5)
	c.goes("3", 1)
	high := c.last().Answer
	c.goes("2", 1)
	low := c.last().Answer
	if high.Status != api.OK || low.Status != api.OK || high.At.Wall != 500 || low.At.Wall >= 500 {
		t.Fatalf("the commits are %+v and %+v", high, low)
	}
	for _, client := range []string{"2", "3"} {
		c.goes(client, 1)
		if a := c.last().Answer; a.Op.Token != high.Token || a.At.Wall != 500 || a.Status != api.OK {
			t.Errorf("client %s begins with %+v", client, a)
		}
	}
}

// P22.2, P22.4: a begin counts however it is answered; the twentieth that fails is the last.
func TestTries(t *testing.T) {
	c := opened(t, there, back, there)
	c.steps(api.OK, "wall 2 "+number(math.MaxInt)) // a begin is refused at the top alone
	c.goes("2", 1)
	c.steps(api.OK, "kill 2", "wall 2 18446744073709551615")
	c.told([]api.Errno{waits, waits, waits}, 1, 0, 0)
	for i := range 18 {
		c.goes("2", 1)
		c.told([]api.Errno{waits, waits, waits}, 2+i, 0, 0)
	}
	c.goes("2", 1)
	c.told([]api.Errno{tries, waits, waits}, 20, 0, 0)
	c.goes("2", 1)
	c.told([]api.Errno{tries, waits, waits}, 20, 0, 1)
	c.goes("3", 6)
	c.told([]api.Errno{tries, api.OK, waits}, 20, 1, 1)
}

// P22.2, P22.4: two that meet: one of them fails, begins again above the other's commit, and comes through.
func TestAgain(t *testing.T) {
	c := opened(t, there, back)
	for range 5 {
		c.goes("2", 1)
		c.goes("3", 1)
	}
	c.goes("2", 1)
	c.told([]api.Errno{api.OK, waits}, 1, 1)
	c.goes("3", 1)
	if a := c.last().Answer; a.Op.Kind != api.OpCommit || a.Status != api.ErrStale {
		t.Fatalf("client 3's commit is answered %+v", a)
	}
	c.told([]api.Errno{api.OK, waits}, 1, 1)
	c.goes("3", 6)
	c.told([]api.Errno{api.OK, api.OK}, 1, 2)
	c.has(90, 110)
}

// P22.4: what a shard refuses a read with makes the client abort, and then it begins again.
func TestDrop(t *testing.T) {
	for _, reads := range []int{1, 2} {
		c := opened(t, there)
		c.goes("2", reads)
		c.steps(api.OK, "mark 0 900.0.0", "mark 1 900.0.0")
		c.goes("2", 1)
		if a := c.last().Answer; a.Op.Kind != api.OpGet || a.Status != api.ErrOld {
			t.Fatalf("the get is answered %+v", a)
		}
		c.told([]api.Errno{waits}, 1)
		c.goes("2", 1)
		if a := c.last().Answer; a.Op.Kind != api.OpAbort || a.Status != api.OK {
			t.Fatalf("then comes %+v", a)
		}
		c.told([]api.Errno{waits}, 1)
		c.steps(api.OK, "wall 2 901")
		c.goes("2", 6)
		c.told([]api.Errno{api.OK}, 2)
	}
}

// P22.4: a kill fails a try in any phase but begin; a transfer whose commit waits is lost, committed or not.
func TestKill(t *testing.T) {
	for acts := range 6 {
		c := opened(t, there)
		c.steps(api.OK, "kill 2", "kill 3")
		c.told([]api.Errno{waits}, 0)
		c.goes("2", acts)
		c.steps(api.OK, "kill 3", "kill 2", "kill 2")
		c.told([]api.Errno{waits}, min(acts, 1))
		c.goes("2", 6)
		c.told([]api.Errno{api.OK}, min(acts, 1)+1)
	}
	for _, acts := range []int{1, 2} {
		c := opened(t, there)
		c.goes("2", acts)
		c.steps(api.OK, "go 2", "kill 2")
		c.told([]api.Errno{waits}, 1)
		c.goes("2", 6)
		c.told([]api.Errno{api.OK}, 2)
	}
	for calms := range 5 {
		c := opened(t, there, back, back)
		c.goes("2", 5)
		c.steps(api.OK, "go 2")
		for range calms {
			c.steps(api.OK, "calm 0")
		}
		c.steps(api.OK, "kill 3", "kill 2")
		want := []api.Errno{lost, waits, waits}
		if calms == 4 {
			want[0] = api.OK
		}
		c.told(want, 1, 0, 0)
		c.steps(api.OK, "round 0", "round 0", "round 0", "round 0")
		c.told(want, 1, 0, 0)
		if calms < 2 {
			c.has(100, 100) // the Commit never goes out
		} else {
			c.has(70, 130)
		}
		c.goes("2", 6)
		want[2] = api.OK
		c.told(want, 1, 0, 1)
		c.steps(api.OK, "kill 2")
		c.told(want, 1, 0, 1)
		c.steps(api.ErrNone, "go 2")
	}
}

// P22.4: killed on its way to tell that the funds do not suffice, a try has failed like any other.
func TestKillOfARefusal(t *testing.T) {
	c := opened(t, Transfer{"a", "z", 101})
	c.goes("2", 3)
	c.steps(api.OK, "kill 2")
	c.told([]api.Errno{waits}, 1)
	c.goes("2", 3)
	c.told([]api.Errno{waits}, 2)
	c.goes("2", 1)
	c.told([]api.Errno{funds}, 2)
}

// P22.4: the twentieth try that a kill fails is the last.
func TestTriesByKill(t *testing.T) {
	c := opened(t, there)
	for range 19 {
		c.steps(api.OK, "go 2", "kill 2")
	}
	c.told([]api.Errno{waits}, 19)
	c.steps(api.OK, "kill 2", "go 2")
	c.told([]api.Errno{waits}, 20)
	c.steps(api.OK, "kill 2")
	c.told([]api.Errno{tries}, 20)
	c.steps(api.ErrNone, "go 2")
}
