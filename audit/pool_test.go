package audit

import (
	"runtime"
	"strconv"
	"testing"
	"time"

	"tidemark/api"
)

var asked = []int{-1 << 62, -1, 0, 1, 2, 3, 7, 8, 9, 100, 1<<63 - 1}

func wantAll(t *testing.T, what string, list []api.Result, place int, wrong api.Errno) {
	t.Helper()
	for _, workers := range asked {
		if i, e := CheckAll(list, workers); i != place || e != wrong {
			t.Errorf("%s, %d workers: CheckAll says %d, %d; want %d, %d", what, workers, i, e, place, wrong)
		}
	}
}

// P18.5: the chapter's example 10, and lists in which nothing is wrong.
func TestCheckAllExamples(t *testing.T) {
	r1 := result([]api.Event{puts(tt, "k", "1")}, entry(tt, sb))
	r2 := result([]api.Event{puts(tt, "k", "1"), gets(uu, "k", sc, "")}, entry(tt, sb))
	r4 := result(nil, entry(tt, sb), entry(uu, sb))
	wantAll(t, "2, 1, 4", []api.Result{r2, r1, r4}, 0, api.ErrSnapshot)
	wantAll(t, "1, 4, 2", []api.Result{r1, r4, r2}, 1, api.ErrTwin)
	wantAll(t, "1, 1, 2", []api.Result{r1, r1, r2}, 2, api.ErrSnapshot)
	wantAll(t, "1, 1, 1", []api.Result{r1, r1, r1}, -1, api.OK)
	wantAll(t, "1", []api.Result{r1}, -1, api.OK)
	wantAll(t, "none", nil, -1, api.OK)
	wantAll(t, "an empty list", []api.Result{}, -1, api.OK)
}

// big is a result that it takes a while to look at.
func big(n int, tail ...api.Event) api.Result {
	var r api.Result
	for i := range n {
		txn := api.Txn{Client: 1, Seq: uint32(1 + i)}
		r.Events = append(r.Events, puts(txn, "k"+strconv.Itoa(i), "1"))
		r.Commits = append(r.Commits, entry(txn, api.Stamp{Wall: uint64(1 + i)}))
	}
	r.Events = append(r.Events, tail...)
	return r
}

// P18.5: the first in the list wins, not the one that is found first.
func TestCheckAllTellsTheFirst(t *testing.T) {
	slow := big(3000, aborts(api.Txn{Client: 1, Seq: 1}, api.OK))
	quick := result([]api.Event{begins(uu, sa, "x")})
	fine := big(10)
	list := []api.Result{fine, fine, slow, quick, quick, slow, fine}
	for range 10 {
		wantAll(t, "a slow one ahead of quick ones", list, 2, api.ErrGhost)
		wantAll(t, "a quick one ahead of a slow one", list[3:], 0, api.ErrCause)
	}
}

// P18.5: any lists, beside Check alone.
func TestCheckAllOfAnyLists(t *testing.T) {
	seen := map[string]int{}
	for seed := range int64(300) {
		d := newDice(seed)
		list := make([]api.Result, d.Intn(40))
		for i := range list {
			r := d.result()
			d.mend(&r)
			if e, _ := Check(r); e != api.OK && d.Intn(10) > 0 {
				r = big(d.Intn(20))
			}
			list[i] = r
		}
		place, wrong := -1, api.OK
		for i, r := range list {
			if e, _ := Check(r); e != api.OK {
				place, wrong = i, e
				break
			}
		}
		seen[strconv.FormatBool(place < 0)+", long: "+strconv.FormatBool(len(list) > 10)]++
		wantAll(t, "seed "+strconv.FormatInt(seed, 10), list, place, wrong)
	}
	wantSeen(t, seen, "true, long: true", "false, long: true")
}

// P18.5: how many workers there are.
func TestCrew(t *testing.T) {
	want := map[int]int{-1 << 62: 1, -1: 1, 0: 1, 1: 1, 2: 2, 7: 7, 8: 8, 9: 8, 1<<63 - 1: 8}
	for asked, n := range want {
		if got := crew(asked); got != n {
			t.Errorf("%d are asked for: %d workers, want %d", asked, got, n)
		}
	}
}

// P18.5: all workers have ended when the call answers, and so has the one that sends.
func TestNoGoroutineLivesOn(t *testing.T) {
	before := runtime.NumGoroutine()
	list := make([]api.Result, 200)
	for i := range list {
		list[i] = big(20)
	}
	list[5] = result([]api.Event{begins(uu, sa, "x")})
	for range 5 {
		wantAll(t, "many", list, 5, api.ErrCause)
		wantAll(t, "all right", list[6:], -1, api.OK)
	}
	for range 200 { // one that is on its way out may still be counted
		if runtime.NumGoroutine() <= before {
			return
		}
		time.Sleep(10 * time.Millisecond)
	}
	t.Errorf("%d goroutines, and there were %d", runtime.NumGoroutine(), before)
}

// The chapter's 'Ways': behind a wrong result that is found no more places are sent.
func TestNoMoreIsLookedAt(t *testing.T) {
	list := make([]api.Result, 100)
	slow := big(1000)
	for i := range list {
		list[i] = slow
	}
	all := testing.AllocsPerRun(1, func() { CheckAll(list, 8) })
	list[0] = result([]api.Event{begins(uu, sa, "x")})
	few := all
	for range 20 { // the worker that has the wrong one may be kept waiting, but not always
		few = min(few, testing.AllocsPerRun(1, func() { CheckAll(list, 8) }))
		if few < all/2 {
			return
		}
	}
	t.Errorf("with a wrong result ahead %v allocations, without %v", few, all)
}
