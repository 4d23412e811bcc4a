package cluster

import (
	"runtime"
	"strings"
	"sync"
	"testing"
	"time"

	"tidemark/api"
)

// P17.6: behind Cancel no line is played, and what was done is told.
func TestCancel(t *testing.T) {
	c := busy(t)
	before := c.Result()
	for range 3 {
		c.Cancel()
		wantSame(t, "Cancel", c.Result(), before)
		for _, line := range []string{"wall 0 1", "calm 0", "halt", "none", "", strings.Repeat("x", 1000)} {
			if e := c.Step(line); e != api.ErrDone {
				t.Errorf("%q behind Cancel is answered %d", line, e)
			}
		}
		wantSame(t, "a step behind Cancel", c.Result(), before)
	}
	if before.Status != api.OK {
		t.Errorf("the status is %d", before.Status)
	}
	if e := started(t, "").Step("wall 0 1"); e != api.OK {
		t.Errorf("another cluster is cancelled, too: %d", e)
	}
}

// P17.4, P17.6: halt is a line that is done, and the last one.
func TestHalt(t *testing.T) {
	c := started(t, "begin 2 rw % | halt")
	wantNumber(t, "steps", c.Result().Steps, 2)
	for _, line := range []string{"begin 3 rw %", "halt", "none"} {
		if e := c.Step(line); e != api.ErrDone {
			t.Errorf("%q behind halt is answered %d", line, e)
		}
	}
	wantEvents(t, "behind halt", c.Result(), "1-1 2/1 begin 0.1.2")
	c.Cancel()
	wantNumber(t, "steps behind Cancel", c.Result().Steps, 2)
}

// P17.6: who cancels may be another one than who plays, and several may.
func TestCancelFromElsewhere(t *testing.T) {
	for range 50 {
		c := started(t, "")
		var all sync.WaitGroup
		for range 4 {
			all.Go(c.Cancel)
		}
		steps := 0
		for range 300 {
			switch e := c.Step("wall 0 1"); e {
			case api.OK:
				steps++
			case api.ErrDone:
			default:
				t.Fatalf("a step is answered %d", e)
			}
		}
		all.Wait()
		wantNumber(t, "steps", c.Result().Steps, steps)
		if e := c.Step("wall 0 1"); e != api.ErrDone {
			t.Errorf("behind Cancel a step is answered %d", e)
		}
	}
}

// P17.10: a cluster that neither Start nor StartOn made plays nothing.
func TestNoCluster(t *testing.T) {
	var c Cluster
	for range 2 {
		for _, line := range []string{"calm 0", "round 0", "halt", "get 0 a", ""} {
			if e := c.Step(line); e != api.ErrDone {
				t.Errorf("%q is answered %d", line, e)
			}
		}
		wantSame(t, "no cluster", c.Result(), api.Result{})
		c.Cancel()
	}
}

// P17.8: Run plays the lines between the line ends, as Step does.
func TestRun(t *testing.T) {
	for seed := range int64(60) {
		d := newDice(t, seed, everything, nil)
		d.play(30)
		if seed%3 == 0 {
			d.h.step("halt", "wall 0 1")
		}
		d.h.step("", " ", "begin 9 rw %", "\r")
		d.play(30)
		wantSame(t, "Run", Run(d.h.config, strings.Join(d.h.lines, "\n")), d.h.c.Result())
	}
	for text, want := range map[string]string{
		"":                                   "",
		"\n":                                 "",
		"begin 2 rw %":                       "1-1 2/1 begin 0.1.2",
		"\n\nbegin 2 rw %\n":                 "3-3 2/1 begin 0.1.2",
		"begin 2 rw %\r\nbegin 3 rw %":       "2-2 3/1 begin 0.1.3",
		"begin 2 rw %\n\n\nput 2 a 1\n":      "1-1 2/1 begin 0.1.2, 4-4 2/1 put 0.1.2",
		"halt\nbegin 2 rw %":                 "",
		"begin 2 rw %\nhalt\nbegin 3 rw %\n": "1-1 2/1 begin 0.1.2",
	} {
		wantEvents(t, text, Run(two, text), want)
	}
}

// P17.8: of more than MaxSteps lines the first are played.
func TestRunOfManyLines(t *testing.T) {
	for _, line := range []string{"\n", "wall 0 1\n", "x\n"} {
		r := Run(two, strings.Repeat(line, maxSteps-1)+"begin 2 rw %\nbegin 3 rw %"+strings.Repeat("\nget 3 a", 10000))
		wantEvents(t, line, r, "400-400 2/1 begin 0.1.2")
	}
	wantNumber(t, "steps", Run(two, strings.Repeat("wall 0 1\n", 100000)).Steps, maxSteps)
}

// Ways: no goroutine lives on when Run has answered, wherever the run ends.
func TestRunLeavesNothing(t *testing.T) {
	before := runtime.NumGoroutine()
	for range 200 {
		Run(two, strings.Repeat("wall 0 1\n", 5))
		Run(two, "halt\n"+strings.Repeat("wall 0 1\n", 50))
		Run(two, strings.Repeat("wall 0 1\n", 450))
		Run(two, "")
		Run("", strings.Repeat("wall 0 1\n", 50))
	}
	for tries := 0; runtime.NumGoroutine() > before; tries++ { // one that has just closed the channel may be on its way out
		if tries > 2000 {
			t.Fatalf("%d goroutines, %d were there before", runtime.NumGoroutine(), before)
		}
		time.Sleep(time.Millisecond)
	}
}

// Ways: what is answered does not hang on who goes first.
func TestRunsAreAlike(t *testing.T) {
	defer runtime.GOMAXPROCS(runtime.GOMAXPROCS(0))
	text := strings.Join(script(done+" | begin 3 ro @2 | get 3 a | calm | calm | halt | commit 3 | begin 3 rw % | calm | halt"), "\n")
	want := Run(two, text)
	wantNumber(t, "steps", want.Steps, 12)
	for n := range 400 {
		runtime.GOMAXPROCS(1 + n%4)
		wantSame(t, "again", Run(two, text), want)
	}
	runtime.GOMAXPROCS(4)
	var all sync.WaitGroup
	for range 8 {
		all.Go(func() {
			for range 20 {
				if !same(Run(two, text), want) {
					t.Error("another result")
				}
			}
		})
	}
	all.Wait()
}
