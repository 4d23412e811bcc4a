package bank

import (
	"math"
	"reflect"
	"slices"
	"strconv"
	"strings"
	"testing"

	"tidemark/api"
	"tidemark/cluster"
)

// config is that of DOC.md's examples: the shards 0 (keys below m) and 1, the clients 2 and 3.
const config = "shards 2\nclients 2\ncapacity 65536\npark 4\nwindow 10\nsplit m"

const (
	waits = api.ErrWait
	funds = api.ErrFunds
	tries = api.ErrTries
	lost  = api.ErrLost
)

var (
	two   = []string{"a", "z"}
	there = Transfer{From: "a", To: "z", Amount: 30}
	back  = Transfer{From: "z", To: "a", Amount: 20}
)

func at(wall uint64, logical, node uint32) api.Stamp {
	return api.Stamp{Wall: wall, Logical: logical, Node: node}
}

func number(n int) string { return strconv.Itoa(n) }

// teller is a bank whose answers are held to what is wanted.
type teller struct {
	*testing.T
	b *Bank
}

// opened opens a bank of the accounts a and z with 100 in each.
func opened(t *testing.T, transfers ...Transfer) teller {
	t.Helper()
	b, e := Open(config, two, 100, transfers)
	if b == nil || e != api.OK {
		t.Fatalf("Open = %d", e)
	}
	return teller{t, b}
}

// steps plays lines, each of which is to be answered so.
func (c teller) steps(want api.Errno, lines ...string) {
	c.Helper()
	for _, line := range lines {
		if e := c.b.Step(line); e != want {
			c.Errorf("Step(%q) = %d, want %d", line, e, want)
		}
	}
}

// goes has a client do acts, with as many calms behind each as its answer needs.
func (c teller) goes(client string, acts int) {
	c.Helper()
	for range acts {
		c.steps(api.OK, "go "+client)
		for calms := 0; c.b.client(client).waits && calms < openingCalms; calms++ {
			c.steps(api.OK, "calm 0")
		}
	}
}

// told holds the report's statuses and numbers of tries to what is wanted.
func (c teller) told(status []api.Errno, begun ...int) {
	c.Helper()
	if r := c.b.Report(); !slices.Equal(r.Status, status) || !slices.Equal(r.Tries, begun) {
		c.Errorf("Report tells %v, %v, want %v, %v", r.Status, r.Tries, status, begun)
	}
}

// has holds the balances to what is wanted.
func (c teller) has(want ...int) {
	c.Helper()
	if got, ok := Balances(c.b.Report().Result, two); !ok || !slices.Equal(got, want) {
		c.Errorf("Balances = %v, %v, want %v", got, ok, want)
	}
}

// played tells how many lines the cluster has done.
func (c teller) played() int { return c.b.Report().Result.Steps }

// playsAll plays lines that do nothing, till no more are played.
func (c teller) playsAll() {
	c.Helper()
	for range api.MaxSteps - c.played() {
		c.steps(api.OK, "wall 0 0")
	}
}

// last gives the last event.
func (c teller) last() api.Event {
	c.Helper()
	events := c.b.Report().Result.Events
	return events[len(events)-1]
}

// byHand plays lines on a cluster of its own.
func byHand(t *testing.T, config string, lines ...string) *cluster.Cluster {
	t.Helper()
	c, e := cluster.Start(config)
	if e != api.OK {
		t.Fatalf("Start(%q) = %d", config, e)
	}
	for _, line := range lines {
		c.Step(line)
	}
	return c
}

// P22.1 to P22.6: the chapter's example.
func TestTheExample(t *testing.T) {
	c := opened(t, there, Transfer{"z", "a", 500}, Transfer{"a", "z", 80})
	c.told([]api.Errno{waits, waits, waits}, 0, 0, 0)
	c.has(100, 100)
	if r := c.b.Report().Result; r.Steps != 9 || len(r.Commits) != 1 || r.Commits[0].At != at(0, 2, 1) {
		t.Errorf("opened: %d steps, commits %v", r.Steps, r.Commits)
	}
	c.steps(api.ErrLine, "go 4", "go 02", "get 2 a", "halt", "")
	if c.played() != 9 {
		t.Errorf("%d steps", c.played())
	}
	c.steps(api.OK, "go 2", "go 2")
	c.steps(waits, "go 2")
	c.steps(api.OK, "calm 0", "calm 0", "go 2", "calm 0", "calm 0", "go 2", "go 2", "go 2")
	c.told([]api.Errno{waits, waits, waits}, 1, 0, 0)
	c.steps(api.OK, "go 3", "go 3", "calm 0", "calm 0", "calm 0", "calm 0", "calm 0")
	c.told([]api.Errno{api.OK, waits, waits}, 1, 1, 0)
	c.has(70, 130)
	c.steps(api.OK, "go 3", "calm 0", "calm 0", "go 3")
	c.told([]api.Errno{api.OK, funds, waits}, 1, 1, 0)
	c.steps(api.ErrNone, "go 3")
	c.steps(api.OK, "go 2", "go 2", "calm 0", "calm 0", "go 2", "calm 0", "calm 0", "go 2")
	c.told([]api.Errno{api.OK, funds, funds}, 1, 1, 1)
	c.steps(api.ErrNone, "go 2")
	for _, w := range []struct {
		at  api.Stamp
		sum int
		ok  bool
	}{{at(0, 0, 0), 0, false}, {at(0, 2, 0), 0, false}, {at(0, 2, 1), 200, true}, {at(0, 2, 2), 200, true}, {at(9, 0, 0), 200, true}} {
		if sum, ok := Sum(c.b.Report().Result, two, w.at); sum != w.sum || ok != w.ok {
			t.Errorf("Sum at %v = %d, %v", w.at, sum, ok)
		}
	}
}

// openingOf gives the lines of an opening, as the chapter has them.
func openingOf(client int, each int, words ...string) []string {
	lines := []string{"begin " + number(client) + " rw %"}
	for _, word := range words {
		lines = append(lines, "put "+number(client)+" "+word+" "+number(each))
	}
	return append(lines, "commit "+number(client), "calm 0", "calm 0", "calm 0", "calm 0", "calm 0")
}

// P22.1: the opening is the lines of the chapter, in the list's order, by the lowest client.
func TestTheOpening(t *testing.T) {
	for _, o := range []struct {
		config   string
		accounts []string
		words    []string
		each     int
		client   int
	}{
		{config, two, []string{"a", "z"}, 0, 2},
		{config, []string{"z", "a"}, []string{"z", "a"}, 1000000000, 2},
		{config, []string{"z y", "%", "\x00", "\xff\n", "b"}, []string{"z%20y", "%25", "%00", "%ff%0a", "b"}, 7, 2},
		{strings.Replace(config, "clients 2", "clients 6", 1), two, []string{"a", "z"}, 5, 2},
		{"shards 1\nclients 1\ncapacity 1048576\npark 0\nwindow 0", two, []string{"a", "z"}, 5, 1},
		{"shards 3\nclients 2\ncapacity 1048576\npark 0\nwindow 18446744073709551614\nsplit b\nsplit c", two, []string{"a", "z"}, 5, 3},
	} {
		b, e := Open(o.config, o.accounts, o.each, nil)
		if e != api.OK {
			t.Errorf("Open(%q, %q) = %d", o.config, o.accounts, e)
			continue
		}
		want := byHand(t, o.config, openingOf(o.client, o.each, o.words...)...).Result()
		r := b.Report()
		if !reflect.DeepEqual(r.Result, want) || len(r.Status) != 0 || len(r.Tries) != 0 {
			t.Errorf("opened with %q: %+v, want %+v", o.accounts, r, want)
		}
		list, ok := Balances(r.Result, o.accounts)
		if !ok || !slices.Equal(list, slices.Repeat([]int{o.each}, len(o.accounts))) {
			t.Errorf("opened with %q: Balances = %v, %v", o.accounts, list, ok)
		}
	}
}

// many gives so many accounts of 32 bytes.
func many(n int) []string {
	var list []string
	for i := range n {
		list = append(list, strings.Repeat("x", 30)+number(10+i))
	}
	return list
}

// P22.1: what an argument may be, and which error is told first.
func TestOpenRefuses(t *testing.T) {
	long := strings.Repeat("x", api.MaxKey)
	small := strings.Replace(config, "65536", "256", 1)
	wrong := "shards 9\nclients 2\ncapacity 65536\npark 4\nwindow 10"
	of := func(list ...Transfer) []Transfer { return list }
	for i, o := range []struct {
		config    string
		accounts  []string
		each      int
		transfers []Transfer
		want      api.Errno
	}{
		{config, two, 0, nil, api.OK},
		{config, two, 1000000000, of(Transfer{"a", "z", 1}, Transfer{"z", "a", 1000000000}), api.OK},
		{config, []string{long, "\x00"}, 1, of(Transfer{"\x00", long, 1}), api.OK},
		{config, many(16), 1, nil, api.OK},
		{config, two, 1, slices.Repeat(of(there), 64), api.OK},
		{config, nil, 1, nil, api.ErrArg},
		{config, []string{"a"}, 1, nil, api.ErrArg},
		{config, many(17), 1, nil, api.ErrArg},
		{config, []string{"a", ""}, 1, nil, api.ErrArg},
		{config, []string{long + "x", "a"}, 1, nil, api.ErrArg},
		{config, []string{"a", "a"}, 1, nil, api.ErrArg},
		{config, []string{"a", "z", "b", "z"}, 1, nil, api.ErrArg},
		{config, two, -1, nil, api.ErrArg},
		{config, two, math.MinInt, nil, api.ErrArg},
		{config, two, 1000000001, nil, api.ErrArg},
		{config, two, 1, slices.Repeat(of(there), 65), api.ErrArg},
		{config, two, 1, of(there, Transfer{"a", "a", 1}), api.ErrArg},
		{config, two, 1, of(Transfer{"a", "b", 1}), api.ErrArg},
		{config, two, 1, of(Transfer{"b", "a", 1}), api.ErrArg},
		{config, two, 1, of(Transfer{"", "a", 1}), api.ErrArg},
		{config, two, 1, of(Transfer{}), api.ErrArg},
		{config, two, 1, of(Transfer{"a", "z", 0}), api.ErrArg},
		{config, two, 1, of(Transfer{"a", "z", -1}), api.ErrArg},
		{config, two, 1, of(Transfer{"a", "z", 1000000001}), api.ErrArg},
		{config, two, 1, of(Transfer{"a", "z", math.MaxInt}), api.ErrArg},
		{"", two, 1, nil, api.ErrConfig},
		{wrong, two, 1, nil, api.ErrArg},
		{"", two[:1], 1, nil, api.ErrArg},
		{"", two, -1, nil, api.ErrArg},
		{"", two, 1, of(Transfer{"a", "a", 1}), api.ErrArg},
		{small, two, 1, nil, api.OK},
		{small, many(16), 1, nil, api.ErrFull},
		{small, many(17), 1, nil, api.ErrArg},
	} {
		b, e := Open(o.config, o.accounts, o.each, o.transfers)
		if e != o.want || (b == nil) != (e != api.OK) {
			t.Errorf("case %d: Open = %v, %d, want %d", i, b, e, o.want)
		}
	}
}

// P22.1: on disks of every size Open tells what the same lines come to by hand: the commit's error, or that it waits.
func TestOpenOnSmallDisks(t *testing.T) {
	seen := map[api.Errno]int{}
	accounts := many(16)
	for capacity := 256; capacity < 1000; capacity += 3 {
		text := strings.Replace(config, "65536", number(capacity), 1)
		text = strings.Replace(text, "split m", "split "+accounts[8], 1)
		want := waits
		for _, e := range byHand(t, text, openingOf(2, 100, accounts...)...).Result().Events {
			if e.Answer.Op.Kind == api.OpCommit {
				want = e.Answer.Status
			}
		}
		if b, e := Open(text, accounts, 100, []Transfer{{accounts[0], accounts[9], 1}}); e != want || (b == nil) != (e != api.OK) {
			t.Errorf("on %d bytes: Open = %v, %d, want %d", capacity, b, e, want)
		}
		seen[want]++
	}
	if seen[api.OK] == 0 || seen[api.ErrFull] == 0 || seen[waits] == 0 {
		t.Errorf("only these were seen: %v", seen)
	}
}

// A Bank that Open did not make has no clients, and does not panic.
func TestNoBank(t *testing.T) {
	c := teller{t, new(Bank)}
	c.steps(api.ErrLine, "go 0", "go ", "go", "", "get 2 a", "halt")
	c.steps(api.ErrDone, "calm 0", "kill 0", "kill", "mark 0 x")
	if r := c.b.Report(); len(r.Status)+len(r.Tries)+len(r.Result.Shards)+r.Result.Steps != 0 {
		t.Errorf("Report = %+v", r)
	}
}
