package bank

import (
	"reflect"
	"slices"
	"testing"

	"tidemark/api"
)

func fill[E any](list []E, with E) {
	list = list[:cap(list)]
	for i := range list {
		list[i] = with
	}
}

// midway gives a bank with a transfer that is through, one that waits, and one at a get that was answered.
func midway(t *testing.T) teller {
	c := opened(t, there, back, there)
	c.goes("2", 6)
	c.goes("3", 5)
	c.steps(api.OK, "go 3")
	c.goesPast("2", 2)
	return c
}

// goesPast has a client do acts whose answers come while another one's does not: only that one's messages arrive.
func (c teller) goesPast(client string, acts int) {
	c.Helper()
	for range acts {
		c.steps(api.OK, "go "+client)
		for takes := 0; c.b.client(client).waits && takes < openingCalms; takes++ {
			c.steps(api.OK, "take "+number(c.b.Report().Result.Flight-1), "sync 0", "sync 1")
		}
	}
}

// P22.5: a report's lists are new memory: writing into one changes nothing of the next one, nor of what the bank does.
func TestReportsAreNew(t *testing.T) {
	c, twin := midway(t), midway(t)
	if r := c.b.Report(); !slices.Equal(r.Status, []api.Errno{api.OK, waits, waits}) || len(r.Result.Waiting) != 1 {
		t.Fatalf("midway: %+v", r)
	}
	spoilt := c.b.Report()
	fill(spoilt.Status, api.ErrLost)
	fill(spoilt.Tries, 99)
	for _, e := range spoilt.Result.Events {
		fill(e.Answer.Pairs, api.Pair{Key: "spoilt"})
	}
	fill(spoilt.Result.Events, api.Event{})
	fill(spoilt.Result.Commits, api.Entry{})
	fill(spoilt.Result.Waiting, api.Event{})
	fill(spoilt.Result.Config.Splits, "spoilt")
	fill(spoilt.Result.Shards, api.Shown{})
	if got, want := c.b.Report(), twin.b.Report(); !reflect.DeepEqual(got, want) {
		t.Errorf("Report = %+v, want %+v", got, want)
	}
	for _, line := range []string{"calm 0", "go 2", "calm 0", "calm 0", "go 2", "calm 0", "calm 0", "go 2", "go 2", "go 2", "calm 0", "calm 0", "calm 0", "calm 0", "calm 0"} {
		if got, want := c.b.Step(line), twin.b.Step(line); got != want {
			t.Errorf("Step(%q) = %d, want %d", line, got, want)
		}
	}
	got, want := c.b.Report(), twin.b.Report()
	if !reflect.DeepEqual(got, want) || got.Result.Steps < 30 {
		t.Errorf("Report = %+v, want %+v", got, want)
	}
}

// What is handed to Open is not changed, spare room included, and not kept as it is.
func TestWhatIsHandedInIsNotKept(t *testing.T) {
	accounts := []string{"z", "a", "spare"}
	transfers := []Transfer{there, back, there, {"spare", "", -1}}
	b, e := Open(config, accounts[:2], 100, transfers[:3])
	if e != api.OK || !slices.Equal(accounts, []string{"z", "a", "spare"}) || !slices.Equal(transfers, []Transfer{there, back, there, {"spare", "", -1}}) {
		t.Errorf("Open = %d, and what was handed in is %v, %v", e, accounts, transfers)
	}
	fill(accounts, "a")
	fill(transfers, Transfer{})
	c := teller{t, b}
	c.goes("2", 12)
	c.goes("3", 6)
	c.told([]api.Errno{api.OK, api.OK, api.OK}, 1, 1, 1)
	c.has(60, 140)
}

// Balances' list is new memory.
func TestBalancesAreNew(t *testing.T) {
	r := opened(t).b.Report().Result
	first, _ := Balances(r, two)
	fill(first, 0)
	if second, ok := Balances(r, two); !ok || !slices.Equal(second, []int{100, 100}) {
		t.Errorf("Balances = %v, %v", second, ok)
	}
}

// Objects are apart: what one bank does another one of the same arguments knows nothing of.
func TestBanksAreApart(t *testing.T) {
	transfers := []Transfer{there, back}
	first, _ := Open(config, two, 100, transfers)
	second, _ := Open(config, two, 100, transfers)
	before := second.Report()
	c := teller{t, first}
	c.goes("2", 6)
	c.goes("3", 6)
	if got := second.Report(); !reflect.DeepEqual(got, before) {
		t.Errorf("Report = %+v, want %+v", got, before)
	}
	c = teller{t, second}
	c.goes("3", 6)
	c.told([]api.Errno{waits, api.OK}, 0, 1)
}
