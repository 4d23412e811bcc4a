package bank

import (
	"math"
	"math/rand"
	"reflect"
	"slices"
	"strconv"
	"strings"
	"testing"

	"tidemark/api"
	"tidemark/audit"
)

// top is the greatest of all stamps.
func top() api.Stamp { return at(math.MaxUint64, math.MaxUint32, math.MaxUint32) }

func wrote(txn api.Txn, key, value string) api.Event {
	return api.Event{Answer: api.Answer{Client: txn.Client, Txn: txn, Op: api.Op{Kind: api.OpPut, Key: key, Value: value}}}
}

func committed(txn api.Txn, s api.Stamp) api.Entry {
	return api.Entry{Txn: txn, Outcome: api.Committed, At: s}
}

var (
	t1 = api.Txn{Client: 2, Seq: 1}
	t2 = api.Txn{Client: 3, Seq: 1}
)

// P22.6: which values are amounts.
func TestAmounts(t *testing.T) {
	for _, c := range []struct {
		value string
		want  int
		ok    bool
	}{
		{"0", 0, true}, {"7", 7, true}, {"10", 10, true}, {"999999999999999", 999999999999999, true}, {"100000000000000", 100000000000000, true},
		{"", 0, false}, {"00", 0, false}, {"01", 0, false}, {"000000000000000", 0, false}, {"1000000000000000", 0, false}, {"0000000000000001", 0, false}, {"18446744073709551616", 0, false},
		{"+1", 0, false}, {"-1", 0, false}, {"-0", 0, false}, {" 1", 0, false}, {"1 ", 0, false}, {"1\n", 0, false}, {"1_0", 0, false}, {"1.0", 0, false}, {"0x1", 0, false}, {"1e3", 0, false}, {"a", 0, false}, {"\x00", 0, false}, {"\xff", 0, false}, {"١", 0, false},
	} {
		r := api.Result{Events: []api.Event{wrote(t1, "a", "5"), wrote(t1, "z", c.value)}, Commits: []api.Entry{committed(t1, at(3, 0, 0))}}
		wantSum, want := 0, []int(nil)
		if c.ok {
			wantSum, want = 5+c.want, []int{5, c.want}
		}
		if sum, ok := Sum(r, two, at(3, 0, 0)); sum != wantSum || ok != c.ok {
			t.Errorf("Sum with %q = %d, %v", c.value, sum, ok)
		}
		if list, ok := Balances(r, two); !slices.Equal(list, want) || ok != c.ok {
			t.Errorf("Balances with %q = %v, %v", c.value, list, ok)
		}
	}
}

// P22.6: the state at a stamp, up to the greatest one; the accounts' order, accounts that stand twice, none, too many.
func TestSums(t *testing.T) {
	gone := wrote(t2, "z", "")
	gone.Answer.Op = api.Op{Kind: api.OpDelete, Key: "z"}
	r := api.Result{
		Events:  []api.Event{wrote(t1, "a", "5"), wrote(t1, "z", "70"), wrote(t1, "\xff", "900"), wrote(t1, "", "1000"), wrote(t2, "a", "6"), gone},
		Commits: []api.Entry{committed(t1, at(3, 0, 0)), committed(t2, top())},
	}
	below := top()
	below.Node--
	for _, c := range []struct {
		accounts []string
		at       api.Stamp
		want     int
		ok       bool
	}{
		{two, at(2, math.MaxUint32, math.MaxUint32), 0, false},
		{two, at(3, 0, 0), 75, true},
		{two, below, 75, true},
		{two, top(), 0, false},
		{[]string{"a"}, top(), 6, true},
		{[]string{"a", "b"}, below, 0, false},
		{[]string{"a", "a", "z", "a"}, below, 85, true},
		{[]string{"", "\xff", "a", "z"}, below, 1975, true},
		{slices.Repeat([]string{"a"}, 16), below, 80, true},
		{slices.Repeat([]string{"a"}, 17), below, 0, false},
		{nil, at(0, 0, 0), 0, true},
		{[]string{}, top(), 0, true},
		{[]string{"a" + strings.Repeat("x", 1000)}, below, 0, false},
	} {
		if sum, ok := Sum(r, c.accounts, c.at); sum != c.want || ok != c.ok {
			t.Errorf("Sum of %.20q at %v = %d, %v, want %d, %v", c.accounts, c.at, sum, ok, c.want, c.ok)
		}
	}
	for _, c := range []struct {
		accounts []string
		want     []int
		ok       bool
	}{
		{two, nil, false},
		{[]string{"\xff", "a", "", "a"}, []int{900, 6, 1000, 6}, true},
		{slices.Repeat([]string{"a"}, 16), slices.Repeat([]int{6}, 16), true},
		{slices.Repeat([]string{"a"}, 17), nil, false},
		{nil, nil, true},
	} {
		if list, ok := Balances(r, c.accounts); !slices.Equal(list, c.want) || ok != c.ok {
			t.Errorf("Balances of %q = %v, %v, want %v, %v", c.accounts, list, ok, c.want, c.ok)
		}
	}
}

// drawnResult draws any result with a few transactions, keys and stamps.
func drawnResult(d *rand.Rand) api.Result {
	var r api.Result
	values := []string{"0", "1", "25", "999999999999999", "", "01", "-1", "x"}
	for range d.Intn(30) {
		e := wrote(api.Txn{Client: uint32(d.Intn(2)), Seq: uint32(d.Intn(3))}, []string{"a", "b", "z", ""}[d.Intn(4)], values[min(d.Intn(16), d.Intn(8))])
		e.Answer.Op.Kind = api.OpKind([]int{4, 4, 4, 4, 4, 4, 4, 4, 5, 2, 9}[d.Intn(11)])
		e.Answer.Status = api.Errno(d.Intn(8) / 7)
		r.Events = append(r.Events, e)
	}
	for range d.Intn(8) {
		e := committed(api.Txn{Client: uint32(d.Intn(2)), Seq: uint32(d.Intn(3))}, at(uint64(d.Intn(3)), 0, uint32(d.Intn(2))))
		e.Outcome = api.Outcome([]int{1, 1, 1, 2, 0}[d.Intn(5)])
		r.Commits = append(r.Commits, e)
	}
	return r
}

// P22.6: of any result, held to audit's state, account by account.
func TestSumsOfAnyResult(t *testing.T) {
	sums := 0
	for seed := range int64(3000) {
		d := rand.New(rand.NewSource(seed))
		r := drawnResult(d)
		accounts := []string{"a", "b", "z", "", "a"}[d.Intn(5):][:1]
		accounts = append(accounts, []string{"b", "a"}[:d.Intn(3)]...)
		when := at(uint64(d.Intn(4)), 0, uint32(d.Intn(2)))
		tell := func(s api.Stamp) ([]int, bool) {
			var list []int
			for _, a := range accounts {
				pairs := audit.State(r, api.Span{Lo: a, Hi: a + "\x00"}, s)
				if len(pairs) == 0 {
					return nil, false
				}
				n, err := strconv.Atoi(pairs[0].Value)
				if err != nil || n < 0 || number(n) != pairs[0].Value {
					return nil, false
				}
				list = append(list, n)
			}
			return list, true
		}
		list, wantOK := tell(when)
		want := 0
		for _, n := range list {
			want += n
		}
		if sum, ok := Sum(r, accounts, when); sum != want || ok != wantOK {
			t.Errorf("seed %d: Sum = %d, %v, want %d, %v", seed, sum, ok, want, wantOK)
		}
		list, wantOK = tell(top())
		if got, ok := Balances(r, accounts); !slices.Equal(got, list) || ok != wantOK {
			t.Errorf("seed %d: Balances = %v, %v, want %v, %v", seed, got, ok, list, wantOK)
		}
		if wantOK {
			sums++
		}
	}
	if sums < 200 {
		t.Errorf("only %d results have balances", sums)
	}
}

// P22.6: neither the result nor the accounts are changed.
func TestSumsChangeNothing(t *testing.T) {
	for seed := range int64(200) {
		r, twin := drawnResult(rand.New(rand.NewSource(seed))), drawnResult(rand.New(rand.NewSource(seed)))
		accounts := []string{"z", "a", "b", "spare"}[:2]
		Sum(r, accounts, at(1, 0, 0))
		Balances(r, accounts)
		if !reflect.DeepEqual(r, twin) || !slices.Equal(accounts[:4], []string{"z", "a", "b", "spare"}) {
			t.Errorf("seed %d: what was handed in is changed", seed)
		}
	}
}
