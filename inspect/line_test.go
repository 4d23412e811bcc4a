package inspect

import (
	"fmt"
	"slices"
	"strings"
	"testing"

	"tidemark/api"
	"tidemark/wal"
)

// shown tells a record in a fault: one of the longest would fill the screen.
func shown(r api.Record) string { return fmt.Sprintf("%.600s", fmt.Sprintf("%+v", r)) }

// wantLine holds a record and its line to each other (P24.1, P24.2).
func wantLine(t *testing.T, r api.Record, want string) {
	t.Helper()
	if got, e := Line(r); got != want || e != api.OK {
		t.Errorf("Line(%s) = %.300q, %d, want %.300q", shown(r), got, e, want)
	}
	if got, e := Unline(want); !sameRecord(got, r) || e != api.OK {
		t.Errorf("Unline(%.300q) = %s, %d, want %s", want, shown(got), e, shown(r))
	}
}

func wantNoLine(t *testing.T, r api.Record) {
	t.Helper()
	if got, e := Line(r); got != "" || e != api.ErrRecord {
		t.Errorf("Line(%s) = %.300q, %d", shown(r), got, e)
	}
}

func wantNoRecord(t *testing.T, line string) {
	t.Helper()
	if got, e := Unline(line); !sameRecord(got, api.Record{}) || e != api.ErrRecord {
		t.Errorf("Unline(%.300q) = %s, %d", line, shown(got), e)
	}
}

// The chapter's examples, and others like them.
func TestLineExamples(t *testing.T) {
	both := prepared(t21, 0, at(5, 0, 1), put("a", "1"), deleted("b"))
	both.Reads = []api.Span{{Lo: "a", Hi: "a\x00"}, {Lo: "b"}}
	wantLine(t, reserved(300), "reserve 300")
	wantLine(t, both, "prepare 2 1 0 5.0.1 read a a%00 read b % put a 1 del b")
	wantLine(t, prepared(t21, 0, at(5, 0, 1), put("k", "")), "prepare 2 1 0 5.0.1 put k %")
	wantLine(t, committed(t21, 0, at(5, 0, 1)), "decide 2 1 0 commit 5.0.1")
	wantLine(t, aborted(t21, 3), "decide 2 1 3 abort")
	wantLine(t, marked(at(7, 0, 0)), "mark 7.0.0")
	wantLine(t, imaged("\x01"), "image %01")

	home := reserved(300)
	home.Home = 1
	wantNoLine(t, home)
	for _, line := range []string{"reserve 0300", "reserve 300 ", "prepare 2 1 0 5.0.1", "prepare 2 1 0 5.0.1 put b 1 put a 1", "prepare 2 1 0 5.0.1 put k %61", "decide 2 1 0 abort 0.0.0", ""} {
		wantNoRecord(t, line)
	}
}

// P24.1: the edges of each field, and words that are like the line's own.
func TestLineEdges(t *testing.T) {
	wantLine(t, reserved(0), "reserve 0")
	wantLine(t, reserved(topWall), "reserve 18446744073709551615")
	wantLine(t, marked(at(0, 0, 0)), "mark 0.0.0")
	wantLine(t, marked(at(topWall-1, topSmall, topSmall)), "mark 18446744073709551614.4294967295.4294967295")
	wantLine(t, imaged(""), "image %")
	wantLine(t, imaged("image %\n\xff"), "image image%20%25%0a%ff")
	wantLine(t, aborted(txn(topSmall, topSmall), topSmall), "decide 4294967295 4294967295 4294967295 abort")
	wantLine(t, aborted(txn(0, 1), 0), "decide 0 1 0 abort")
	wantLine(t, committed(txn(0, 1), 0, at(0, 0, 0)), "decide 0 1 0 commit 0.0.0")
	wantLine(t, committed(txn(0, 1), 9, at(topWall-1, 7, topSmall)), "decide 0 1 9 commit 18446744073709551614.7.4294967295")
	wantLine(t, prepared(t21, 9, at(0, 0, 0), put("del", "put"), put("put", "del"), deleted("read")), "prepare 2 1 9 0.0.0 put del put put put del del read")
	reads := api.Record{Kind: api.RecPrepare, Txn: t21, At: at(1, 0, 0), Reads: []api.Span{{Lo: "read", Hi: "reads"}, {}, {}, {Lo: "del", Hi: "put"}}}
	wantLine(t, reads, "prepare 2 1 0 1.0.0 read read reads read % % read % % read del put")
	long, wide, bound := strings.Repeat("k", 32), strings.Repeat(" ", 64), strings.Repeat("\xff", 33)
	wantLine(t, prepared(t21, 0, at(1, 0, 0), put(long, wide)), "prepare 2 1 0 1.0.0 put "+long+" "+strings.Repeat("%20", 64))
	reads.Reads = []api.Span{{Lo: long, Hi: bound}, {Lo: bound}}
	wantLine(t, reads, "prepare 2 1 0 1.0.0 read "+long+" "+strings.Repeat("%ff", 33)+" read "+strings.Repeat("%ff", 33)+" %")
}

// P24.1, P24.2: every byte in every word.
func TestLineBytes(t *testing.T) {
	for b := range 256 {
		text := string([]byte{byte(b)})
		word := modelWord(text)
		wantLine(t, imaged(text+"x"), "image "+word+"x")
		wantLine(t, prepared(t21, 0, at(1, 0, 0), put(text, text)), "prepare 2 1 0 1.0.0 put "+word+" "+word)
		wantLine(t, prepared(t21, 0, at(1, 0, 0), deleted(text)), "prepare 2 1 0 1.0.0 del "+word)
		reads := api.Record{Kind: api.RecPrepare, Txn: t21, At: at(1, 0, 0), Reads: []api.Span{{Lo: text, Hi: text + "\x00"}}}
		wantLine(t, reads, "prepare 2 1 0 1.0.0 read "+word+" "+word+"%00")
	}
}

// full is a record with as many reads and writes.
func full(reads, writes int) api.Record {
	r := prepared(t21, 0, at(1, 0, 0))
	for i := range reads {
		r.Reads = append(r.Reads, api.Span{Lo: string(rune('z' - i%20))})
	}
	for i := range writes {
		r.Writes = append(r.Writes, put(fmt.Sprintf("%06d", i), "x"))
	}
	return r
}

// P24.1, P24.2: records as great as they may be, and lines that are greater.
func TestLineLimits(t *testing.T) {
	for _, n := range [][2]int{{16, 16}, {16, 0}, {0, 16}, {1, 16}, {16, 1}} {
		wantLine(t, full(n[0], n[1]), modelLine(full(n[0], n[1])))
	}
	for _, n := range [][2]int{{17, 16}, {16, 17}, {17, 0}, {0, 17}, {0, 0}, {100000, 0}, {0, 100000}} {
		wantNoLine(t, full(n[0], n[1]))
		wantNoRecord(t, "prepare 2 1 0 1.0.0"+strings.Repeat(" read z %", n[0])+modelWrites(n[1]))
	}
	for _, text := range []string{strings.Repeat("x", maxImage), strings.Repeat("\x00\xff%a", maxImage/4)} {
		line, e := Line(imaged(text))
		if e != api.OK || line != "image "+strings.NewReplacer("%", "%25", "\x00", "%00", "\xff", "%ff").Replace(text) {
			t.Errorf("the line of the longest image has %d bytes, %d", len(line), e)
		}
		if r, e := Unline(line); e != api.OK || !sameRecord(r, imaged(text)) {
			t.Errorf("the longest image is not read back: %d bytes, %d", len(r.Image), e)
		}
		wantNoLine(t, imaged(text+"x"))
		wantNoRecord(t, line+"x")
	}
}

func modelWrites(n int) string {
	var b strings.Builder
	for i := range n {
		fmt.Fprintf(&b, " put %06d x", i)
	}
	return b.String()
}

// P24.1: what no valid record is has no line: each field that is out of its bounds, or not its kind's.
func TestLineOfNoRecord(t *testing.T) {
	changes := map[string]func(*api.Record){
		"kind 0":    func(r *api.Record) { r.Kind = 0 },
		"kind 6":    func(r *api.Record) { r.Kind = 6 },
		"kind -1":   func(r *api.Record) { r.Kind = -1 },
		"wall":      func(r *api.Record) { r.Wall++ },
		"seq":       func(r *api.Record) { r.Txn.Seq++ },
		"no seq":    func(r *api.Record) { r.Txn.Seq = 0 },
		"client":    func(r *api.Record) { r.Txn.Client++ },
		"home":      func(r *api.Record) { r.Home++ },
		"outcome":   func(r *api.Record) { r.Outcome = api.Committed },
		"outcome 2": func(r *api.Record) { r.Outcome = api.Aborted },
		"outcome 0": func(r *api.Record) { r.Outcome = api.Unknown },
		"outcome 3": func(r *api.Record) { r.Outcome = 3 },
		"at":        func(r *api.Record) { r.At.Node++ },
		"top":       func(r *api.Record) { r.At.Wall = topWall },
		"reads":     func(r *api.Record) { r.Reads = append(r.Reads, api.Span{}) },
		"no reads":  func(r *api.Record) { r.Reads = nil },
		"span":      func(r *api.Record) { r.Reads = []api.Span{{Lo: "b", Hi: "b"}} },
		"bound":     func(r *api.Record) { r.Reads = []api.Span{{Lo: strings.Repeat("x", 34)}} },
		"writes":    func(r *api.Record) { r.Writes = append(r.Writes, put("z", "")) },
		"no writes": func(r *api.Record) { r.Writes = nil },
		"twice":     func(r *api.Record) { r.Writes = []api.Write{put("a", ""), deleted("a")} },
		"falling":   func(r *api.Record) { r.Writes = []api.Write{put("b", ""), put("a", "")} },
		"no key":    func(r *api.Record) { r.Writes = []api.Write{put("", "1")} },
		"long key":  func(r *api.Record) { r.Writes = []api.Write{put(strings.Repeat("x", 33), "1")} },
		"value":     func(r *api.Record) { r.Writes = []api.Write{put("a", strings.Repeat("x", 65))} },
		"tombstone": func(r *api.Record) { r.Writes = []api.Write{{Key: "a", Delete: true, Value: "1"}} },
		"image":     func(r *api.Record) { r.Image += "x" },
	}
	refused := 0
	for _, r := range []api.Record{reserved(5), prepared(t21, 0, at(1, 0, 0), put("a", "")), committed(t21, 0, at(1, 0, 0)), aborted(t21, 0), marked(at(1, 0, 0)), imaged("x")} {
		for what, change := range changes {
			spoilt := r
			change(&spoilt)
			if wal.Valid(spoilt) == api.OK {
				wantLine(t, spoilt, modelLine(spoilt))
				continue
			}
			refused++
			if line, e := Line(spoilt); line != "" || e != api.ErrRecord {
				t.Errorf("%s: Line(%+v) = %q, %d", what, spoilt, line, e)
			}
		}
	}
	if refused < 100 {
		t.Errorf("only %d records are refused", refused)
	}
}

// Fields that are none, by what has to stand there.
var (
	noSmalls = []string{"", "00", "01", "-1", "+1", "4294967296", "18446744073709551616", "x", "0x1", "1_0", "1.0", "%31", "\u0661", "1\t", strings.Repeat("9", 5000)}
	noWalls  = []string{"", "00", "05", "-1", "+1", "18446744073709551616", "99999999999999999999", "x", "0x1", "1_0", "1.0", "\u0661", "5\n", strings.Repeat("1", 5000)}
	noStamps = []string{"", "5", "5.0", "5.0.1.0", "05.0.1", "5.00.1", "5.0.01", "5..1", ".0.1", "5.0.", "+5.0.1", "5.4294967296.1", "5.0.4294967296", "18446744073709551615.0.0", "18446744073709551616.0.0", "x", "%"}
	noWords  = []string{"", "%6", "%61", "%2F", "a%", "%%", "\x00", "a\x7f", "\u00e9", "a\tb", "\xff", "%4G"}
	noKeys   = append([]string{"%", strings.Repeat("k", 33)}, noWords...)
	noValues = append([]string{strings.Repeat("v", 65)}, noWords...)
	noBounds = append([]string{strings.Repeat("b", 34)}, noWords...)
	noNames  = []string{"", "Put", "puts", "pu", "%", "abort", "Reserve", "reserves", "1"}
)

// P24.2: each field of each line as it must not be.
func TestUnlineOfWrongFields(t *testing.T) {
	of := [][]string{noNames, noSmalls, append([]string{"0"}, noSmalls...), noSmalls}
	for line, wrong := range map[string][][]string{
		"reserve 5":                            {noNames, noWalls},
		"mark 5.0.1":                           {noNames, noStamps},
		"image x":                              {noNames, noWords},
		"decide 2 1 0 abort":                   append(slices.Clone(of), append([]string{"Abort", "unknown", "commit"}, noWords...)),
		"decide 2 1 0 commit 5.0.1":            append(slices.Clone(of), append([]string{"Commit", "committed"}, noNames...), noStamps),
		"prepare 2 1 0 5.0.1 put k 1":          append(slices.Clone(of), noStamps, append([]string{"del"}, noNames...), noKeys, noValues),
		"prepare 2 1 0 5.0.1 del k":            append(slices.Clone(of), noStamps, append([]string{"put", "read"}, noNames...), noKeys),
		"prepare 2 1 0 5.0.1 read a b":         append(slices.Clone(of), noStamps, append([]string{"del"}, noNames...), append([]string{"b", "c"}, noBounds...), append([]string{"a", "A"}, noBounds...)),
		"prepare 2 1 0 5.0.1 read a b put k 1": append(slices.Clone(of), noStamps, noNames, noBounds, noBounds, append([]string{"del"}, noNames...), noKeys, noValues),
		"prepare 2 1 0 5.0.1 put a 1 put b 2":  append(slices.Clone(of), noStamps, noNames, append([]string{"b", "c"}, noKeys...), noValues, append([]string{"read", "del"}, noNames...), append([]string{"a", "A"}, noKeys...), noValues),
		"prepare 2 1 0 5.0.1 put a 1 read a b": nil,
		"prepare 2 1 0 5.0.1 del a read a b":   nil,
	} {
		if wrong == nil {
			wantNoRecord(t, line)
			continue
		}
		r, e := Unline(line)
		if e != api.OK || modelLine(r) != line {
			t.Fatalf("Unline(%q) = %+v, %d", line, r, e)
		}
		split := strings.Split(line, " ")
		if len(split) != len(wrong) {
			t.Fatalf("%q has %d fields, not %d", line, len(split), len(wrong))
		}
		for i, list := range wrong {
			for _, field := range list {
				spoilt := slices.Clone(split)
				spoilt[i] = field
				wantNoRecord(t, strings.Join(spoilt, " "))
			}
		}
	}
}

// P24.2: lines with a blank, a field or an end too few or too many.
func TestUnlineOfWrongShapes(t *testing.T) {
	for _, line := range []string{"reserve 5", "mark 5.0.1", "image x", "decide 2 1 0 abort", "decide 2 1 0 commit 5.0.1", "prepare 2 1 0 5.0.1 read a b", "prepare 2 1 0 5.0.1 put k 1", "prepare 2 1 0 5.0.1 del k"} {
		split := strings.Split(line, " ")
		for i := range split {
			wantNoRecord(t, strings.Join(split[:i], " "))
			wantNoRecord(t, strings.Join(slices.Insert(slices.Clone(split), i, ""), " "))
			wantNoRecord(t, strings.Join(slices.Insert(slices.Clone(split), i, "5"), " "))
			if i > 0 {
				wantNoRecord(t, strings.Join(split[:i], " ")+"\t"+strings.Join(split[i:], " "))
			}
		}
		for _, end := range []string{" ", "\n", "\r\n", "\x00", " 5", " %", "  "} {
			wantNoRecord(t, line+end)
		}
		wantNoRecord(t, " "+line)
		wantNoRecord(t, line+" "+line)
		wantNoRecord(t, line+"\n"+line)
		wantNoRecord(t, strings.ToUpper(line))
	}
	for _, line := range []string{" ", "  ", "x", "\x00", "read a b", "put k 1", "del k", "slot 0", "torn 3", "ceiling 5", strings.Repeat(" ", 1<<20), strings.Repeat("reserve ", 1<<17), "prepare 2 1 0 5.0.1" + strings.Repeat(" ", 1<<20)} {
		wantNoRecord(t, line)
	}
}

// wantJust holds an answer of Unline to the words: the record has just that line, or there is none.
func wantJust(t *testing.T, line string) bool {
	t.Helper()
	r, e := Unline(line)
	if e == api.OK {
		if told, f := Line(r); told != line || f != api.OK || modelLine(r) != line || wal.Valid(r) != api.OK {
			t.Fatalf("Unline(%q) = %+v, whose line is %q, %d", line, r, told, f)
		}
		return true
	}
	if e != api.ErrRecord || !sameRecord(r, api.Record{}) {
		t.Fatalf("Unline(%q) = %+v, %d", line, r, e)
	}
	return false
}

// P24.1, P24.2: any valid records, and their lines with something changed.
func TestAnyLines(t *testing.T) {
	seen := map[string]int{}
	for seed := range int64(3000) {
		d := newDice(seed)
		r := d.anyRecord()
		line := modelLine(r)
		wantLine(t, r, line)
		seen[line[:strings.IndexByte(line, ' ')]]++
		for range 40 {
			if wantJust(t, d.spoilt(line)) {
				seen["read"]++
			} else {
				seen["refused"]++
			}
		}
		if t.Failed() {
			t.Fatalf("seed %d", seed)
		}
	}
	wantSeen(t, seen, "reserve", "prepare", "decide", "mark", "image", "read", "refused")
}

// P24.2: every line of a few fields.
func TestAllSmallLines(t *testing.T) {
	words := []string{"", "0", "1", "5.0.1", "a", "%", "read", "put", "del", "commit", "abort", "mark", "image", "reserve"}
	taken := 0
	var extend func(line string, left int)
	extend = func(line string, left int) {
		if wantJust(t, line) {
			taken++
		}
		if left == 0 {
			return
		}
		for _, word := range words {
			extend(line+" "+word, left-1)
		}
	}
	for begin, left := range map[string]int{"reserve": 2, "mark": 2, "image": 2, "decide 1 1": 3, "decide": 3, "prepare 1 1 0 5.0.1": 4, "prepare 1": 3, "": 2} {
		extend(begin, left)
	}
	if taken < 300 {
		t.Errorf("only %d lines are read", taken)
	}
}

// FuzzUnline holds any line, and the image that is this text, to P24.1 and P24.2.
func FuzzUnline(f *testing.F) {
	for _, line := range []string{"", "reserve 300", "prepare 2 1 0 5.0.1 read a a%00 read b % put a 1 del b", "decide 2 1 0 commit 5.0.1", "decide 2 1 3 abort", "mark 7.0.0", "image %01"} {
		f.Add(line)
	}
	f.Fuzz(func(t *testing.T, line string) {
		wantJust(t, line)
		if len(line) <= maxImage {
			wantLine(t, imaged(line), modelLine(imaged(line)))
		}
	})
}
