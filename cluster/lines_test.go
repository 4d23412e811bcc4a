package cluster

import (
	"slices"
	"strings"
	"testing"

	"tidemark/api"
	"tidemark/token"
)

// forms are those of P17.4. What is written in capitals stands for something.
var forms = []string{
	"wall N W", "begin C rw TOKEN", "begin C ro TOKEN", "begin C at TOKEN", "get C TEXT", "scan C TEXT TEXT A", "rscan C TEXT TEXT A",
	"put C TEXT TEXT", "del C TEXT", "commit C", "abort C", "take I", "drop I", "copy I", "sync S", "tick N", "crash S A A", "mark S STAMP", "save S",
	"kill C", "calm A", "round A", "halt",
}

// right tells for each thing how it may be written, where two messages are in flight.
func right(thing string) []string {
	switch thing {
	case "N":
		return []string{"0", "1", "2", "3"}
	case "S":
		return []string{"0", "1"}
	case "C":
		return []string{"2", "3"}
	case "I":
		return []string{"0", "1"}
	case "A":
		return []string{"0", "1", "10", "9223372036854775807"}
	case "W":
		return []string{"0", "9", "1000000000000", "18446744073709551614", "18446744073709551615"}
	case "TEXT":
		return []string{"%", "a", "%00", "%ff%20", "@2", "@", "0", "50%25", "!~", "%0a"}
	case "STAMP":
		return []string{"0.0.1", "1.0.0", "18446744073709551614.4294967295.4294967295"}
	case "TOKEN":
		return []string{"%", "@2", "@3", "xyz", "a@2", "%00", "2"}
	}
	return []string{thing}
}

// wrong tells for each thing how it may not be written.
func wrong(thing string) []string {
	numbers := []string{"", "x", "-1", "-0", "+0", "00", "01", "0x0", "0_0", "1_0", "0.", "0 ", "\u0662", "1e1", "%30", "18446744073709551616", "99999999999999999999", "0\n", "0\t"}
	switch thing {
	case "N":
		return append(numbers, "4", "4294967296", "4294967298", "18446744073709551615")
	case "S":
		return append(numbers, "2", "3", "4", "4294967296", "18446744073709551615")
	case "C":
		return append(numbers, "0", "1", "4", "02", "4294967298", "18446744073709551615")
	case "I":
		return append(numbers, "2", "4294967296", "9223372036854775807", "9223372036854775808", "18446744073709551615")
	case "A":
		return append(numbers, "9223372036854775808", "18446744073709551615")
	case "W":
		return append(numbers, "36893488147419103232")
	case "TEXT":
		return []string{"", "%6", "%61", "%2F", "%%", "a%", "\x7f", "\x80", "\u00e9", "a\tb", "\x00", "a\n"}
	case "STAMP":
		return []string{"", "1", "1.0", "1.0.0.0", "01.0.0", "1.00.0", "1.0.4294967296", "1.4294967296.0", "18446744073709551616.0.0", "-1.0.0", "1.0.0x", ".0.0", "1..0", "%"}
	case "TOKEN":
		return []string{"", "@", "@0", "@1", "@4", "@02", "@+2", "@-2", "@x", "@%", "@@2", "@2x", "@4294967298", "@18446744073709551616", "@18446744073709551618", "%61", "%40", "%2", "\x80"}
	}
	return []string{"", thing + "x", strings.ToUpper(thing), thing[:len(thing)-1], thing + "\t", thing + "\n", " " + thing}
}

// inFlight has two messages in flight, and both clients have nothing open.
func inFlight(t *testing.T) *Cluster {
	c := started(t, "begin 2 rw % | put 2 a 1 | put 2 z 1 | commit 2 | kill 2")
	wantNumber(t, "in flight", c.Result().Flight, 2)
	return c
}

// with gives a form's line: the field at a place is as told, the others are of the first right kind.
func with(form string, place int, field string) string {
	fields := strings.Split(form, " ")
	for i := range fields {
		fields[i] = right(fields[i])[0]
	}
	if place >= 0 {
		fields[place] = field
	}
	return strings.Join(fields, " ")
}

// P17.4: each form is done, however its fields may be written.
func TestFormsAreDone(t *testing.T) {
	for _, form := range forms {
		for place, thing := range strings.Split(form, " ") {
			for _, field := range right(thing) {
				c := inFlight(t)
				steps := c.Result().Steps
				line := with(form, place, field)
				if e := c.Step(line); e != api.OK {
					t.Errorf("%q is answered %d", line, e)
				}
				wantNumber(t, line+": steps", c.Result().Steps, steps+1)
			}
		}
	}
}

// wantNone holds a line to being none: it counts as played, and nothing else changes.
func wantNone(t *testing.T, c *Cluster, line string) {
	t.Helper()
	before := c.Result()
	played := c.played
	if e := c.Step(line); e != api.ErrLine {
		t.Fatalf("%q is answered %d", line, e)
	}
	if c.played != played+1 {
		t.Fatalf("%q is not played", line)
	}
	c.played = played // so that more can be tried on the same cluster
	if !same(before, c.Result()) {
		t.Fatalf("%q changes something", line)
	}
}

// P17.3, P17.4: what is of none of the forms, or cannot be done, does nothing.
func TestFormsAreRefused(t *testing.T) {
	c := inFlight(t)
	for _, form := range forms {
		things := strings.Split(form, " ")
		for place, thing := range things {
			for _, field := range wrong(thing) {
				wantNone(t, c, with(form, place, field))
			}
		}
		line := with(form, -1, "")
		fields := strings.Split(line, " ")
		for i := range fields {
			if i > 0 { // one field too few, or twice a blank
				wantNone(t, c, strings.Join(slices.Concat(fields[:i], fields[i+1:]), " "))
				wantNone(t, c, strings.Join(fields[:i], " ")+"  "+strings.Join(fields[i:], " "))
				wantNone(t, c, strings.Join(fields[:i], " "))
				wantNone(t, c, strings.Join(fields[:i], " ")+"\t"+strings.Join(fields[i:], " "))
			}
		}
		for _, more := range []string{line + " 0", line + " %", line + " ", " " + line, line + "\n", line + "\r", "\n" + line, line + " " + line} {
			wantNone(t, c, more)
		}
	}
	for _, line := range []string{"", " ", "  ", "#", "# calm 0", "x", "put", "calms 0", "cal 0", "begin 2 wr %", "begin 2  %", "begin 2 at", "haltt", "2", "2 commit", "commit2"} {
		wantNone(t, c, line)
	}
}

// P17.4: without messages in flight there is no place.
func TestPlaces(t *testing.T) {
	c := started(t, "")
	for _, line := range []string{"take 0", "drop 0", "copy 0", "take 1"} {
		wantNone(t, c, line)
	}
	play(t, c, "begin 2 rw % | put 2 a 1 | commit 2 | copy 0 | copy 1 | take 2 | drop 1 | take 0")
	wantNone(t, c, "take 0")
	wantNumber(t, "in flight", c.Result().Flight, 0)
}

// P17.3: a line may have MaxLine bytes.
func TestLongLines(t *testing.T) {
	c := started(t, "begin 2 rw %")
	long := func(n int) string {
		line := "put 2 a "
		return line + strings.Repeat("v", n-len(line))
	}
	play(t, c, long(maxLine))
	r := c.Result()
	wantNumber(t, "events", len(r.Events), 2)
	if op := r.Events[1].Answer.Op; op.Key != "a" || op.Value != strings.Repeat("v", maxLine-8) || r.Events[1].Answer.Status != api.ErrArg {
		t.Errorf("a put of a long value: %+v", r.Events[1])
	}
	wantNone(t, c, long(maxLine+1))
	wantNone(t, c, strings.Repeat("x", maxLine))
	wantNone(t, c, strings.Repeat("x", 100000))
	wantNone(t, c, "halt"+strings.Repeat(" ", maxLine))
}

// P17.3: MaxSteps lines are played, done or not; then none is.
func TestManyLines(t *testing.T) {
	for _, filler := range []string{"wall 0 1", "none", "mark 0 0.0.0", "begin 0 rw %"} {
		c := started(t, "")
		for range maxSteps - 1 {
			c.Step(filler)
		}
		if e := c.Step("begin 2 rw %"); e != api.OK {
			t.Errorf("line %d is answered %d", maxSteps, e)
		}
		r := c.Result()
		wantEvents(t, "the last line", r, "400-400 2/1 begin 0.1.2")
		for _, line := range []string{"put 2 a 1", "none", "halt", "", filler} {
			if e := c.Step(line); e != api.ErrDone {
				t.Errorf("%q behind %d lines is answered %d", line, maxSteps, e)
			}
		}
		wantSame(t, "behind all lines", c.Result(), r)
		want := map[string]int{"wall 0 1": maxSteps}[filler]
		wantNumber(t, filler+": steps", r.Steps, max(want, 1))
	}
}

// P17.4, P17.5: the operations that lines ask.
func TestOperations(t *testing.T) {
	seen := token.Encode(at(7, 1, 2))
	for _, row := range []struct {
		line string
		op   api.Op
	}{
		{"begin 3 rw %", api.Op{Kind: api.OpBegin}},
		{"begin 3 rw x%20y", api.Op{Kind: api.OpBegin, Token: "x y"}},
		{"begin 3 ro " + seen, api.Op{Kind: api.OpBegin, ReadOnly: true, Token: seen}},
		{"begin 3 at " + seen, api.Op{Kind: api.OpBegin, ReadOnly: true, AsOf: true, Token: seen}},
		{"begin 3 at %", api.Op{Kind: api.OpBegin, ReadOnly: true, AsOf: true}},
		{"begin 3 rw @2", api.Op{Kind: api.OpBegin, Token: token.Encode(at(0, 2, 0))}},
		{"begin 3 ro @2", api.Op{Kind: api.OpBegin, ReadOnly: true, Token: token.Encode(at(0, 2, 0))}},
		{"begin 3 at @2", api.Op{Kind: api.OpBegin, ReadOnly: true, AsOf: true, Token: token.Encode(at(0, 2, 0))}},
		{"begin 3 rw @3", api.Op{Kind: api.OpBegin}},
		{"get 3 a%00", api.Op{Kind: api.OpGet, Key: "a\x00"}},
		{"get 3 %", api.Op{Kind: api.OpGet}},
		{"scan 3 lo hi 7", api.Op{Kind: api.OpScan, Key: "lo", Hi: "hi", Limit: 7}},
		{"scan 3 % % 0", api.Op{Kind: api.OpScan}},
		{"rscan 3 b a 9223372036854775807", api.Op{Kind: api.OpScan, Back: true, Key: "b", Hi: "a", Limit: 1<<63 - 1}},
		{"put 3 @2 @3", api.Op{Kind: api.OpPut, Key: "@2", Value: "@3"}},
		{"put 3 k %", api.Op{Kind: api.OpPut, Key: "k"}},
		{"del 3 %ff", api.Op{Kind: api.OpDelete, Key: "\xff"}},
		{"commit 3", api.Op{Kind: api.OpCommit}},
		{"abort 3", api.Op{Kind: api.OpAbort}},
	} {
		c := started(t, done)
		play(t, c, row.line)
		r := c.Result()
		e := r.Events[len(r.Events)-1] // without a transaction nothing waits
		if e.Asked != 8 || e.Answered != 8 || e.Answer.Client != 3 || e.Answer.Op != row.op {
			t.Errorf("%q: %+v, want %+v", row.line, e, row.op)
		}
	}
}

// P17.4: a session's token is taken as it is when the line is played.
func TestTokens(t *testing.T) {
	c := started(t, "begin 3 rw @2 | abort 3 | "+done+" | begin 3 rw @2 | abort 3 | kill 2 | begin 3 rw @2 | abort 3 | begin 2 ro @3")
	var tokens []string
	for _, e := range c.Result().Events {
		if e.Answer.Op.Kind == api.OpBegin {
			tokens = append(tokens, e.Answer.Op.Token)
		}
	}
	if want := []string{"", "", token.Encode(at(0, 2, 0)), "", ""}; !slices.Equal(tokens, want) {
		t.Errorf("the tokens %q, want %q", tokens, want)
	}
}

// P17.5: an event tells the lines at which its operation was asked and answered.
func TestEvents(t *testing.T) {
	c := started(t, "begin 2 rw % | get 2 a | begin 3 rw % | get 2 b | scan 3 % % 0 | put 3 a 1 | calm | calm")
	wantEvents(t, "two reads", c.Result(), "1-1 2/1 begin 0.1.2, 3-3 3/1 begin 0.1.3, 4-4 2/1 get error 162 0.1.2, 6-6 3/1 put error 162 0.1.3, 2-8 2/1 get 0.1.2, 5-8 3/1 scan 0.1.3")
	r := c.Result()
	if op := r.Events[4].Answer.Op; op.Key != "a" {
		t.Errorf("the read that was answered is %+v", op)
	}
	play(t, c, "get 2 b")
	if e := c.Step("take"); e != api.ErrLine { // it has a number all the same
		t.Errorf("%d", e)
	}
	wantWaiting(t, "a third read", c.Result(), "9-0 2/1 get 0.1.2")
	play(t, c, "kill 2 | begin 2 rw % | get 2 a | calm | calm")
	wantLast(t, "behind a kill", c.Result(), "13-15 2/2 get 0.2.2")
	wantNumber(t, "events", len(c.Result().Events), 8)
}

// P17.5: each of several answers at one line has that line as Answered, in the order of the messages.
func TestEventsOfOneLine(t *testing.T) {
	asked := "begin 2 ro % | begin 3 ro % | get 2 a | get 3 a | calm"
	r := run(asked + " | calm 0")
	wantLast(t, "in order", r, "4-6 3/1 get 0.1.3")
	r = run(asked + " | calm 1")
	wantLast(t, "turned", r, "3-6 2/1 get 0.1.2")
	r = run(asked + " | take 1 | take 0")
	wantEvents(t, "one by one", r, "1-1 2/1 begin 0.1.2, 2-2 3/1 begin 0.1.3, 4-6 3/1 get 0.1.3, 3-7 2/1 get 0.1.2")
}
