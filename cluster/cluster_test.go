package cluster

import (
	"strconv"
	"strings"
	"testing"

	"tidemark/api"
	"tidemark/disk"
	"tidemark/stamp"
	"tidemark/token"
	"tidemark/wal"
)

// Limits of DOC.md, told apart from api's constants.
const (
	topWall      = 1<<64 - 1
	maxSteps     = 400
	maxLine      = 400
	maxPark      = 16
	capacity     = 1 << 20
	settleRounds = 10
)

// two is the configuration of DOC.md's examples: the shards 0 and 1, split at m, and the clients 2 and 3.
const two = "shards 2\nclients 2\ncapacity 65536\npark 4\nwindow 10\nsplit m\n"

func at(wall uint64, logical, node uint32) api.Stamp {
	return api.Stamp{Wall: wall, Logical: logical, Node: node}
}

func txn(client, seq uint32) api.Txn { return api.Txn{Client: client, Seq: seq} }

// script gives the lines of a text in which " | " stands between two of them, and calm alone for calm 0.
func script(text string) []string {
	lines := strings.Split(text, " | ")
	for i, line := range lines {
		if line == "calm" {
			lines[i] = "calm 0"
		}
	}
	return lines
}

func run(text string) api.Result { return Run(two, strings.Join(script(text), "\n")) }

// started is a cluster of DOC.md's configuration that has played these lines, each of them OK.
func started(t *testing.T, text string) *Cluster {
	t.Helper()
	c, e := Start(two)
	if e != api.OK {
		t.Fatalf("Start: %d", e)
	}
	if text != "" {
		play(t, c, text)
	}
	return c
}

// play plays lines, each of which must be answered OK.
func play(t *testing.T, c *Cluster, text string) {
	t.Helper()
	for _, line := range script(text) {
		if e := c.Step(line); e != api.OK {
			t.Fatalf("%q is answered %d", line, e)
		}
	}
}

// told tells an event as a text: its lines, the client, the transaction's count, the kind, what is not OK, the stamp, the pairs.
func told(e api.Event) string {
	kinds := []string{"?", "begin", "get", "scan", "put", "del", "commit", "abort"}
	a := e.Answer
	text := strconv.Itoa(e.Asked) + "-" + strconv.Itoa(e.Answered) + " " + strconv.Itoa(int(a.Client)) + "/" + strconv.Itoa(int(a.Txn.Seq)) + " " + kinds[a.Op.Kind]
	if a.Status != api.OK {
		text += " error " + strconv.Itoa(int(a.Status))
	}
	text += " " + stamp.Text(a.At)
	for _, p := range a.Pairs {
		text += " " + p.Key + "=" + p.Value
	}
	return text
}

func allTold(events []api.Event) string {
	var list []string
	for _, e := range events {
		list = append(list, told(e))
	}
	return strings.Join(list, ", ")
}

// wantLast holds the last event to what it should be.
func wantLast(t *testing.T, what string, r api.Result, want string) {
	t.Helper()
	if len(r.Events) == 0 || told(r.Events[len(r.Events)-1]) != want {
		t.Errorf("%s: %s, want %s at the end", what, allTold(r.Events), want)
	}
}

func wantEvents(t *testing.T, what string, r api.Result, want string) {
	t.Helper()
	if got := allTold(r.Events); got != want {
		t.Errorf("%s: the events are %s, want %s", what, got, want)
	}
}

func wantWaiting(t *testing.T, what string, r api.Result, want string) {
	t.Helper()
	if got := allTold(r.Waiting); got != want {
		t.Errorf("%s: what waits is %s, want %s", what, got, want)
	}
}

func wantNumber(t *testing.T, what string, got, want int) {
	t.Helper()
	if got != want {
		t.Errorf("%s: %d, want %d", what, got, want)
	}
}

// wantCommits holds the committed set to its transactions, each told as client/count stamp.
func wantCommits(t *testing.T, what string, r api.Result, want ...string) {
	t.Helper()
	var got []string
	for _, e := range r.Commits {
		if e.Outcome != api.Committed {
			t.Errorf("%s: %v among the commits", what, e)
		}
		got = append(got, strconv.Itoa(int(e.Txn.Client))+"/"+strconv.Itoa(int(e.Txn.Seq))+" "+stamp.Text(e.At))
	}
	if strings.Join(got, ", ") != strings.Join(want, ", ") {
		t.Errorf("%s: committed are %q, want %q", what, got, want)
	}
}

// logOf gives the bytes of a log of these records.
func logOf(t *testing.T, records ...api.Record) string {
	t.Helper()
	d := disk.New(capacity)
	log, _, e := wal.Open(d)
	for _, r := range records {
		if e == api.OK {
			e = log.Append(r)
		}
	}
	if e != api.OK {
		t.Fatalf("a log of %v: %d", records, e)
	}
	return d.Bytes(0)
}

const (
	asking = "begin 2 rw % | put 2 a 1 | commit 2"
	done   = asking + " | calm | calm | calm | calm"
)

// DOC.md's examples 1 to 6.
func TestCommit(t *testing.T) {
	r := run(asking)
	wantEvents(t, "example 1", r, "1-1 2/1 begin 0.1.2, 2-2 2/1 put 0.1.2")
	wantWaiting(t, "example 1", r, "3-0 2/1 commit 0.1.2")
	wantNumber(t, "example 1: in flight", r.Flight, 1)
	wantNumber(t, "example 1: steps", r.Steps, 3)

	r = run(asking + " | calm")
	wantNumber(t, "example 2: the ceiling", int(r.Shards[0].Ceiling), 11)
	r = run(asking + " | calm | calm")
	wantEvents(t, "example 2", r, "1-1 2/1 begin 0.1.2, 2-2 2/1 put 0.1.2")
	wantCommits(t, "example 2", r)

	r = run(asking + " | calm | calm | calm")
	wantCommits(t, "example 3", r, "2/1 0.2.0")
	wantNumber(t, "example 3: the home", int(r.Commits[0].Home), 0)
	wantWaiting(t, "example 3", r, "3-0 2/1 commit 0.1.2")

	r = run(done)
	wantLast(t, "example 4", r, "3-7 2/1 commit 0.2.0")
	if got := r.Events[2].Answer.Token; got != token.Encode(at(0, 2, 0)) {
		t.Errorf("example 4: the token %q", got)
	}

	r = run(asking + " | calm | calm | calm | kill 2 | crash 0 0 0")
	wantCommits(t, "example 5", r, "2/1 0.2.0")
	wantNumber(t, "example 5: events", len(r.Events), 2)
	wantWaiting(t, "example 5", r, "")

	r = run(asking + " | calm | calm | crash 0 0 0 | tick 0 | calm | calm")
	wantLast(t, "example 6", r, "3-9 2/1 commit error 164 0.0.0")
	wantCommits(t, "example 6", r)
}

// DOC.md's examples 7 to 10.
func TestReadsAndConflicts(t *testing.T) {
	r := run(done + " | begin 3 ro @2 | get 3 a | calm | calm")
	wantLast(t, "example 7", r, "9-11 3/1 get 0.3.3 a=1")
	r = run(done + " | begin 3 ro % | get 3 a | calm | calm")
	wantLast(t, "example 8", r, "9-11 3/1 get 0.1.3")
	r = run(done + " | begin 3 at @2 | scan 3 % % 0 | calm | calm | commit 3")
	wantEvents(t, "as of a token", api.Result{Events: r.Events[3:]}, "8-8 3/1 begin 0.2.0, 9-11 3/1 scan 0.2.0 a=1, 12-12 3/1 commit 0.2.0")
	reading := asking + " | calm | wall 3 5 | begin 3 ro % | get 3 a | calm"
	r = run(reading)
	wantNumber(t, "example 9: parked", r.Shards[0].Parked, 1)
	wantNumber(t, "example 9: parked at the other shard", r.Shards[1].Parked, 0)
	r = run(reading + " | calm | calm")
	wantLast(t, "example 9", r, "7-10 3/1 get 5.0.3 a=1")

	both := "begin 2 rw % | get 2 a | calm | calm | put 2 a 1 | begin 3 rw % | get 3 a | calm | calm | put 3 a 2 | commit 2 | commit 3 | calm"
	r = run(both)
	wantWaiting(t, "example 10", r, "11-0 2/1 commit 0.1.2, 12-0 3/1 commit 0.1.3")
	r = run(both + " | calm | calm | calm | calm")
	wantLast(t, "example 10", r, "11-16 2/1 commit 0.2.0")
	wantCommits(t, "example 10", r, "2/1 0.2.0")
	if e := r.Events[len(r.Events)-2]; told(e) != "12-14 3/1 commit error 100 0.0.0" {
		t.Errorf("example 10: client 3's commit: %s", told(e))
	}
}

// The chapter's three examples.
func TestChapterExamples(t *testing.T) {
	r := run("get 2 a | put  2 a 1 | begin 1 rw % | take 0 | begin 2 rw @4")
	wantNumber(t, "the first one: steps", r.Steps, 1)
	wantEvents(t, "the first one", r, "1-1 2/0 get error 161 0.0.0")

	r = run("begin 2 rw % | put 2 z 1 | commit 2 | take 0 | crash 1 0 0 | tick 2 | calm | calm | calm | calm")
	wantLast(t, "the second one", r, "3-10 2/1 commit 0.2.1")

	r = run("begin 2 rw % | put 2 a 1 | put 2 z 1 | commit 2 | calm | calm | take 0 | sync 0 | crash 0 0 0 | crash 1 0 0 | halt | tick 2")
	wantCommits(t, "the third one", r, "2/1 0.2.1")
	wantNumber(t, "the third one: held at 0", len(r.Shards[0].Held), 0)
	wantNumber(t, "the third one: held at 1", len(r.Shards[1].Held), 1)
	wantWaiting(t, "the third one", r, "4-0 2/1 commit 0.1.2")
	wantNumber(t, "the third one: steps", r.Steps, 11)
}

func decimal(n int) string { return strconv.Itoa(n) }
