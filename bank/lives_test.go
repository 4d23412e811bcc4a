package bank

import (
	"math/rand"
	"reflect"
	"slices"
	"strings"
	"testing"

	"tidemark/api"
	"tidemark/audit"
	"tidemark/route"
	"tidemark/stamp"
)

// life is a bank beside its model, with drawn lines.
type life struct {
	*testing.T
	*rand.Rand
	config   api.Config
	accounts []string
	each     int
	b        *Bank
	m        *model
	mix      []string // first fields, as often as they are to be drawn
	now      uint64
	lines    []string
	seen     map[string]int
}

// mixes of lines: hardly anything but transfers; much besides; watermarks; crashes and losses, in which little comes through.
var mixes = [...]string{
	"go go go go go go go go take take take calm calm wall sync",
	"go go go go go go go go go go go go go go take take take take take take take take calm calm calm sync sync sync drop copy tick crash save kill round wall wall other",
	"go go go go go go go go go go go go go go take take take take calm calm calm calm sync tick mark save round wall wall other",
	"go go go go go go take take take take take sync sync sync tick tick crash drop copy kill kill save mark wall round round calm other",
}

func newLife(t *testing.T, seed int64, seen map[string]int) *life {
	t.Helper()
	l := &life{T: t, Rand: rand.New(rand.NewSource(seed)), now: 4, seen: seen}
	l.mix = strings.Fields(mixes[l.Intn(len(mixes))])
	l.config = api.Config{Shards: 1 + l.Intn(3), Clients: 1 + l.Intn(4), Capacity: api.MaxCapacity, Park: l.Intn(4), Window: []uint64{0, 3, 10, 100}[l.Intn(4)]}
	if l.Intn(6) == 0 {
		l.config.Capacity = 300 + l.Intn(700)
	}
	l.config.Splits = []string{"f", "m"}[:l.config.Shards-1]
	l.accounts = []string{"a", "z", "k", "\x00 %", "m", "\xff"}[:2+l.Intn(5)]
	l.Shuffle(len(l.accounts), func(i, k int) { l.accounts[i], l.accounts[k] = l.accounts[k], l.accounts[i] })
	l.each = []int{0, 5, 100, 100, 100, 100, 1000000000}[l.Intn(7)]
	var transfers []Transfer
	for range min(l.Intn(40), l.Intn(65)) {
		way := l.Perm(len(l.accounts))
		transfers = append(transfers, Transfer{l.accounts[way[0]], l.accounts[way[1]], []int{1, 1 + l.Intn(20), 1 + l.Intn(20), 1 + l.Intn(200), 1000000000}[l.Intn(5)]})
	}
	text, _ := route.Text(l.config)
	var e api.Errno
	if l.b, e = Open(text, l.accounts, l.each, transfers); e != api.OK {
		t.Fatalf("seed %d: Open = %d", seed, e)
	}
	var words []string
	for _, a := range l.accounts {
		words = append(words, route.Word(a))
	}
	l.m = newModel(byHand(t, text, openingOf(l.config.Shards, l.each, words...)...), transfers)
	return l
}

func (l *life) pick(list ...string) string { return list[l.Intn(len(list))] }

func (l *life) client() string { return number(l.config.Shards + l.Intn(l.config.Clients)) }

func (l *life) shard() string { return number(l.Intn(l.config.Shards)) }

func (l *life) reading() uint64 {
	l.now += uint64(l.Intn(4))
	return l.now - min(l.now, uint64(l.Intn(6)))
}

// line draws one; few of them cannot be done.
func (l *life) line() string {
	switch name := l.mix[l.Intn(len(l.mix))]; name {
	case "go", "kill":
		return name + " " + l.client()
	case "take", "drop", "copy":
		return name + " " + number(l.Intn(max(l.m.flight, 1)))
	case "sync", "save":
		return name + " " + l.shard()
	case "tick":
		return "tick " + number(l.Intn(l.config.Shards+l.config.Clients))
	case "wall":
		wall := number(int(l.reading()))
		if l.Intn(200) == 0 {
			wall = "18446744073709551615"
		}
		return "wall " + number(l.Intn(l.config.Shards+l.config.Clients)) + " " + wall
	case "crash":
		return "crash " + l.shard() + " " + l.pick("0", "0", number(l.Intn(200)), "9999") + " " + l.pick("0", "0", number(l.Intn(200)), "9999")
	case "mark":
		return "mark " + l.shard() + " " + stamp.Text(api.Stamp{Wall: l.reading() / uint64(1+l.Intn(4)), Node: uint32(l.Intn(4))})
	case "other":
		return l.pick("", "go", "go 99", "go 0", "kill 99", "kill", "halt", "commit "+l.client(), "abort "+l.client(), "begin "+l.client()+" rw %", "put "+l.client()+" a 7", "take 999", "calm", "x")
	default:
		return name + " " + l.pick("0", "0", "1", "2", "9223372036854775807")
	}
}

// fail tells a fault with the script that shows it.
func (l *life) fail(format string, args ...any) {
	l.Helper()
	l.Logf("%+v, accounts %q, each %d, transfers %v", l.config, l.accounts, l.each, l.m.transfers)
	l.Logf("%s", strings.Join(l.lines, " | "))
	l.Fatalf(format, args...)
}

// step plays a drawn line on both.
func (l *life) step() {
	l.Helper()
	line := l.line()
	l.lines = append(l.lines, line)
	got, want := l.b.Step(line), l.m.step(line)
	if got != want {
		l.fail("Step = %d, want %d", got, want)
	}
	l.seen[strings.Split(line+" ", " ")[0]+" "+number(int(got))]++
}

// alike holds the report to the model's, and the two clusters to each other.
func (l *life) alike() Report {
	l.Helper()
	r := l.b.Report()
	status, begun := l.m.report()
	if !slices.Equal(r.Status, status) || !slices.Equal(r.Tries, begun) {
		l.fail("P22.5: Report tells %v, %v, want %v, %v", r.Status, r.Tries, status, begun)
	}
	if want := l.m.c.Result(); !reflect.DeepEqual(r.Result, want) {
		l.fail("P22.5: the cluster is %+v, want %+v", r.Result, want)
	}
	return r
}

// nothingIsLost holds a result to P22.7, at each stamp at which something changes, just below, and far off.
func (l *life) nothingIsLost(r api.Result) {
	l.Helper()
	stamps := []api.Stamp{{}, top()}
	least := top()
	for _, c := range r.Commits {
		stamps = append(stamps, c.At, api.Stamp{Wall: c.At.Wall, Logical: c.At.Logical, Node: c.At.Node + 1}, api.Stamp{Wall: c.At.Wall, Logical: c.At.Logical - 1, Node: 1<<32 - 1})
		if above(least, c.At) {
			least = c.At
		}
	}
	for _, s := range stamps {
		want, wantOK := l.each*len(l.accounts), true
		if above(least, s) {
			want, wantOK = 0, false
		}
		if sum, ok := Sum(r, l.accounts, s); sum != want || ok != wantOK {
			l.fail("P22.7: Sum at %v = %d, %v, want %d, %v", s, sum, ok, want, wantOK)
		}
	}
	list, ok := Balances(r, l.accounts)
	if !ok || len(list) != len(l.accounts) || slices.Min(list) < 0 {
		l.fail("P22.7: Balances = %v, %v", list, ok)
	}
}

// justOnce holds a report to P22.8.
func (l *life) justOnce(r Report) {
	l.Helper()
	times := make([]int, len(l.m.transfers))
	has := map[string]int{}
	for _, a := range l.accounts {
		has[a] = l.each
	}
	for _, c := range r.Result.Commits {
		if i, is := l.m.owner[c.Txn]; is {
			times[i]++
			has[l.m.transfers[i].From] -= l.m.transfers[i].Amount
			has[l.m.transfers[i].To] += l.m.transfers[i].Amount
		}
	}
	waiting := map[int]bool{}
	for _, e := range r.Result.Waiting {
		if e.Answer.Op.Kind == api.OpCommit {
			waiting[l.m.owner[e.Answer.Txn]] = true
		}
	}
	for i, status := range r.Status {
		least, most := 0, 0
		switch {
		case status == api.OK:
			least, most = 1, 1
		case status == lost || status == waits && waiting[i]:
			most = 1
		}
		if times[i] < least || times[i] > most {
			l.fail("P22.8: the transfer %d is told %d and was committed %d times", i, status, times[i])
		}
		l.seen["status "+number(int(status))]++
		if status == lost {
			l.seen["lost and committed "+number(times[i])+" times"]++
		}
		if status == waits && times[i] == 1 {
			l.seen["waits and is committed"]++
		}
		if status == api.OK && r.Tries[i] > 1 {
			l.seen["tried again and through"]++
		}
	}
	list, _ := Balances(r.Result, l.accounts)
	for i, a := range l.accounts {
		if list[i] != has[a] {
			l.fail("P22.8: %q has %d, want %d", a, list[i], has[a])
		}
	}
}

// whole holds all that is told now.
func (l *life) whole() {
	l.Helper()
	r := l.alike()
	l.nothingIsLost(r.Result)
	l.justOnce(r)
	if e, place := audit.Check(r.Result); e != api.OK {
		l.fail("audit tells %d, %d", e, place)
	}
}

// P22.2 to P22.5, P22.7, P22.8: drawn lives, beside the model.
func TestLives(t *testing.T) {
	seen := map[string]int{}
	lives := 100
	if testing.Short() {
		lives = 40
	}
	for seed := range int64(lives) {
		l := newLife(t, seed, seen)
		for range 4 {
			for range 20 + l.Intn(180) {
				l.step()
			}
			l.whole()
		}
		for _, e := range l.b.Report().Result.Events {
			seen["answer "+number(int(e.Answer.Op.Kind))+" "+number(int(e.Answer.Status))]++
		}
	}
	for _, what := range []string{
		"go 0", "go 161", "go 162", "go 171", "go 170", "kill 0", "kill 170", "kill 171", "calm 171", "mark 90", "save 71", "halt 170", "commit 170", " 170", "take 170",
		"status 0", "status 162", "status 180", "status 220", "status 221", "lost and committed 0 times", "lost and committed 1 times", "waits and is committed", "tried again and through",
		"answer 1 11", "answer 2 140", "answer 2 90", "answer 6 100", "answer 6 141", "answer 6 164", "answer 6 60", "answer 7 0",
	} {
		if !testing.Short() && seen[what] == 0 {
			t.Errorf("no life has met: %s (%v)", what, seen)
		}
	}
}

// P22.9: transfers done one behind the other come through at their first try, or the funds do not suffice.
func TestAlone(t *testing.T) {
	seen := map[api.Errno]int{}
	for seed := range int64(120) {
		l := newLife(t, seed, map[string]int{})
		if l.config.Capacity < api.MaxCapacity {
			continue
		}
		has := map[string]int{}
		for _, a := range l.accounts {
			has[a] = l.each
		}
		for l.alone(has, seen) {
		}
		l.nothingIsLost(l.b.Report().Result)
	}
	if seen[api.OK] < 100 || seen[funds] < 100 {
		t.Errorf("only these were told: %v", seen)
	}
}

// alone has a client that is drawn do its next transfer; false, if there is none, or if its lines would not all be played.
func (l *life) alone(has map[string]int, seen map[api.Errno]int) bool {
	l.Helper()
	before := l.b.Report()
	var left []int
	for i, status := range before.Status {
		if status == waits && !slices.Contains(left, i%l.config.Clients) {
			left = append(left, i%l.config.Clients)
		}
	}
	if len(left) == 0 || before.Result.Steps > api.MaxSteps-15 {
		return false
	}
	client := left[l.Intn(len(left))]
	i := client
	for before.Status[i] != waits {
		i += l.config.Clients
	}
	l.transfer(number(l.config.Shards + client))
	want := funds
	if transfer := l.m.transfers[i]; has[transfer.From] >= transfer.Amount {
		want = api.OK
		has[transfer.From] -= transfer.Amount
		has[transfer.To] += transfer.Amount
	}
	r := l.b.Report()
	if r.Status[i] != want || r.Tries[i] != 1 {
		l.fail("P22.9: the transfer %d is told %d at try %d, want %d", i, r.Status[i], r.Tries[i], want)
	}
	list, _ := Balances(r.Result, l.accounts)
	for k, a := range l.accounts {
		if list[k] != has[a] {
			l.fail("P22.9: %q has %d, want %d", a, list[k], has[a])
		}
	}
	seen[want]++
	return true
}

// transfer has a client do a transfer: two calms behind a get, five behind a commit.
func (l *life) transfer(client string) {
	l.Helper()
	go1 := func(calms int) {
		l.Helper()
		for _, line := range append([]string{"go " + client}, slices.Repeat([]string{"calm 0"}, calms)...) {
			l.lines = append(l.lines, line)
			if e := l.b.Step(line); e != api.OK {
				l.fail("P22.9: Step = %d", e)
			}
		}
	}
	go1(0)
	go1(2)
	go1(2)
	go1(0)
	if l.b.client(client).phase == atGive {
		go1(0)
		go1(5)
	}
}

// FuzzStep: whatever the line, a bank answers as its model does, and nothing is lost.
func FuzzStep(f *testing.F) {
	f.Add("go 2\ngo 2\ncalm 0\nkill 2\nround 0")
	f.Add("go 3\nhalt\ncrash 0 0 0\nmark 0 1.0.0\ngo 02\n\nwall 2 18446744073709551615")
	f.Fuzz(func(t *testing.T, script string) {
		transfers := []Transfer{there, back, there}
		b, _ := Open(config, two, 100, transfers)
		m := newModel(byHand(t, config, openingOf(2, 100, "a", "z")...), transfers)
		for line := range strings.SplitSeq(script, "\n") {
			if got, want := b.Step(line), m.step(line); got != want {
				t.Fatalf("Step(%q) = %d, want %d", line, got, want)
			}
		}
		r := b.Report()
		status, begun := m.report()
		if sum, ok := Sum(r.Result, two, top()); sum != 200 || !ok || !slices.Equal(r.Status, status) || !slices.Equal(r.Tries, begun) {
			t.Fatalf("%q: %v, %v, Sum %d, %v", script, r.Status, r.Tries, sum, ok)
		}
	})
}
