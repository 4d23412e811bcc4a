package inspect

import (
	"slices"
	"strings"
	"testing"

	"tidemark/api"
	"tidemark/disk"
	"tidemark/state"
	"tidemark/wal"
	"tidemark/wire"
)

// wantDump holds what a disk is told as to lines with a bar between each two.
func wantDump(t *testing.T, what, a, b, want string) {
	t.Helper()
	if got := strings.Join(Dump(a, b), "|"); got != want {
		t.Errorf("%s: Dump tells %q, want %q", what, got, want)
	}
}

// nothing is the end of what is told of a state that has a ceiling and nothing else.
const nothing = "|watermark 0.0.0|held 0|entries 0|versions 0"

// The chapter's examples.
func TestDumpExamples(t *testing.T) {
	wantDump(t, "nothing", "", "", "slot none|other 0")
	wantDump(t, "torn", logged(t, reserved(5))+"abc", "xy", "slot 0|generation 1|reserve 5|torn 3|other 2|ceiling 5"+nothing)
	wantDump(t, "broken", logged(t, reserved(5), reserved(5)), "", "slot 0|generation 1|reserve 5|reserve 5|torn 0|other 0|broken")
}

// P24.3, 1 and 3: the slot that counts, and the bytes of the other one.
func TestDumpSlots(t *testing.T) {
	one, first := logged(t, reserved(5)), logged(t, reserved(6), marked(at(1, 0, 0)))
	second := header(t, 2) + bytesOf(t, imaged(imageOf(t, 0, reserved(7))))
	image := modelLine(imaged(imageOf(t, 0, reserved(7))))
	wantDump(t, "no log", "abc", "xy", "slot none|other 5")
	wantDump(t, "no log in slot 1", "", "abc", "slot none|other 3")
	wantDump(t, "no image", header(t, 2), header(t, 3), "slot none|other 28")
	wantDump(t, "a header alone", header(t, 1), "", "slot 0|generation 1|torn 0|other 0|ceiling 0"+nothing)
	wantDump(t, "slot 1", "xyz", one, "slot 1|generation 1|reserve 5|torn 0|other 3|ceiling 5"+nothing)
	wantDump(t, "slot 0 of two alike", one, first, "slot 0|generation 1|reserve 5|torn 0|other 49|ceiling 5"+nothing)
	wantDump(t, "the higher generation", one, second, "slot 1|generation 2|"+image+"|torn 0|other 24|ceiling 7"+nothing)
	wantDump(t, "the higher generation, in slot 0", second+"xx", first, "slot 0|generation 2|"+image+"|torn 2|other 49|ceiling 7"+nothing)
	wantDump(t, "the higher generation, torn", first, second[:len(second)-1], "slot 0|generation 1|reserve 6|mark 1.0.0|torn 0|other 44|ceiling 6|watermark 1.0.0|held 0|entries 0|versions 0")
	wantDump(t, "the last generation", "", header(t, 1<<40)+bytesOf(t, imaged(imageOf(t, 0, reserved(7))), reserved(8)), "slot 1|generation 1099511627776|"+image+"|reserve 8|torn 0|other 0|ceiling 8"+nothing)
}

// P24.3, 2 and 4: the lines of the records, and the counts of the state.
func TestDumpCounts(t *testing.T) {
	two := []api.Write{put("a", "1"), deleted("b")}
	list := []api.Record{
		reserved(9), prepared(t21, 3, at(2, 0, 0), two...), committed(t21, 3, at(4, 0, 1)),
		prepared(txn(2, 2), 0, at(5, 0, 0), two...), prepared(txn(2, 3), 0, at(5, 0, 0), put("c", "")), aborted(txn(4, 4), 4),
	}
	const lines = "reserve 9|prepare 2 1 3 2.0.0 put a 1 del b|decide 2 1 3 commit 4.0.1|prepare 2 2 0 5.0.0 put a 1 del b|prepare 2 3 0 5.0.0 put c %|decide 4 4 4 abort"
	told := strings.Split(lines, "|")
	ends := []string{"ceiling 9" + nothing, "ceiling 9|watermark 0.0.0|held 1|entries 0|versions 0", "ceiling 9|watermark 0.0.0|held 0|entries 1|versions 2",
		"ceiling 9|watermark 0.0.0|held 1|entries 1|versions 2", "ceiling 9|watermark 0.0.0|held 2|entries 1|versions 2", "ceiling 9|watermark 0.0.0|held 2|entries 2|versions 2"}
	for n, end := range ends {
		wantDump(t, told[n], logged(t, list[:n+1]...), "", "slot 0|generation 1|"+strings.Join(told[:n+1], "|")+"|torn 0|other 0|"+end)
	}
	high := append(slices.Clone(list), marked(at(topWall-1, 2, 3)), reserved(topWall))
	wantDump(t, "the highest", logged(t, high...), "", "slot 0|generation 1|"+lines+"|mark 18446744073709551614.2.3|reserve 18446744073709551615|torn 0|other 0|ceiling 18446744073709551615|watermark 18446744073709551614.2.3|held 2|entries 2|versions 1")
	wantDump(t, "broken at its end", logged(t, append(list, aborted(t21, 3))...)+"x", "y", "slot 0|generation 1|"+lines+"|decide 2 1 3 abort|torn 1|other 1|broken")
}

// P24.3: a log that is cut anywhere.
func TestDumpOfEachCut(t *testing.T) {
	list := []api.Record{reserved(9), prepared(t21, 0, at(2, 0, 0), put("a", "1")), committed(t21, 0, at(4, 0, 1)), marked(at(5, 0, 0))}
	for generation := range uint64(2) {
		made := slot{bytes: header(t, generation+1), generation: generation + 1, records: list}
		if generation > 0 {
			made.records = append([]api.Record{imaged(imageOf(t, 3))}, list...)
		}
		made.ends = []int{len(made.bytes)}
		for _, r := range made.records {
			made.bytes += bytesOf(t, r)
			made.ends = append(made.ends, len(made.bytes))
		}
		for n := range len(made.bytes) + 1 {
			cut := made.cut(n)
			wantDump(t, "slot 0", cut.bytes, "x", strings.Join(modelDump(cut, slot{bytes: "x"}, 3), "|"))
			wantDump(t, "slot 1", "", cut.bytes, strings.Join(modelDump(slot{}, cut, 3), "|"))
		}
	}
}

// P24.3: the node of which a disk is: that of the first record's image, else node 0.
func TestDumpNodes(t *testing.T) {
	list := []api.Record{reserved(9), prepared(t21, 0, at(2, 0, 0), put("a", "1"))}
	for _, node := range []uint32{0, 1, 3, 127, 128, 300, topSmall} {
		image := imaged(imageOf(t, node, list...))
		bytes := header(t, 2) + bytesOf(t, image, committed(t21, 0, at(4, 0, 0)))
		wantDump(t, "an image", "", bytes, "slot 1|generation 2|"+modelLine(image)+"|decide 2 1 0 commit 4.0.0|torn 0|other 0|ceiling 9|watermark 0.0.0|held 0|entries 1|versions 1")
	}
	whole := imageOf(t, 0, list...)[1:] // what stands behind the node's one byte
	var great wire.Enc
	great.Var(topSmall + 1)
	for what, text := range map[string]string{
		"no bytes":           "",
		"no number's end":    "\x80",
		"too many bytes":     "\x80\x00" + whole,
		"a number too great": great.Bytes() + whole,
		"the greatest":       strings.Repeat("\xff", 9) + "\x01" + whole,
		"bytes left over":    "\x03" + whole + "x",
		"a number alone":     "\x03",
		"bytes that lack":    "\x03" + whole[:len(whole)-1],
		"no node":            whole,
	} {
		wantDump(t, what, header(t, 2)+bytesOf(t, imaged(text))+"z", "", "slot 0|generation 2|"+modelLine(imaged(text))+"|torn 1|other 0|broken")
	}
}

// P24.3: the disk of a log that goes through checkpoints, pending and synced ones.
func TestDumpOfALog(t *testing.T) {
	d := disk.New(api.MaxCapacity)
	log, _, _ := wal.Open(d)
	s := state.New(5)
	add := func(r api.Record) {
		if log.Append(r) != api.OK || s.Apply(r) != api.OK {
			t.Fatalf("%+v is not taken", r)
		}
	}
	add(reserved(9))
	log.Sync()
	old := d.Bytes(0)
	log.Checkpoint(s.Image())
	image := modelLine(imaged(s.Image()))
	add(marked(at(3, 0, 0)))
	lines := "slot 1|generation 2|" + image + "|mark 3.0.0|torn 0|other "
	const end = "|ceiling 9|watermark 3.0.0|held 0|entries 0|versions 0"
	wantDump(t, "pending", d.Bytes(0), d.Bytes(1), lines+"24"+end)
	wantDump(t, "pending, lost", old, "", "slot 0|generation 1|reserve 9|torn 0|other 0|ceiling 9"+nothing)
	log.Sync()
	wantDump(t, "synced", d.Bytes(0), d.Bytes(1), lines+"0"+end)
}

// P24.3: any two slots, beside what they were made of.
func TestAnyDumps(t *testing.T) {
	seen := map[string]int{}
	for seed := range int64(4000) {
		d := newDice(seed)
		node, generation := uint32(d.Intn(4)), uint64(1+d.Intn(3))
		first, second := d.slot(t, generation, node), d.slot(t, generation+1, node)
		switch d.Intn(4) {
		case 0:
			first, second = second, first
		case 1:
			second = slot{bytes: d.text(9)}
		case 2:
			second = d.slot(t, generation, node)
		}
		want := modelDump(first, second, node)
		if got := Dump(first.bytes, second.bytes); !slices.Equal(got, want) {
			t.Fatalf("seed %d: Dump tells %q, want %q", seed, got, want)
		}
		seen[want[0]]++
		seen[want[1]]++
		last, _, _ := strings.Cut(want[len(want)-1], " ")
		seen[last]++
		if node > 0 && strings.Contains(strings.Join(want, "|"), "|image ") {
			seen["another node's "+last]++
		}
	}
	wantSeen(t, seen, "slot 0", "slot 1", "slot none", "generation 1", "generation 2", "generation 3", "broken", "versions", "another node's broken", "another node's versions")
}

// FuzzDump asks for any bytes (P24.8), and holds what is told to what chapter 7 says of them.
func FuzzDump(f *testing.F) {
	f.Add("", "")
	f.Add("\x00\x00\x00\x06", "xy")
	f.Fuzz(func(t *testing.T, a, b string) {
		lines := Dump(a, b)
		slot, records := wal.Pick(a, b)
		if slot < 0 {
			if len(lines) != 2 || lines[0] != "slot none" {
				t.Fatalf("Dump(%q, %q) tells %q", a, b, lines)
			}
			return
		}
		for i, r := range records {
			if lines[2+i] != modelLine(r) {
				t.Fatalf("Dump(%q, %q) tells %q", a, b, lines)
			}
		}
		if n := len(lines) - len(records); n != 5 && n != 9 {
			t.Fatalf("Dump(%q, %q) tells %q", a, b, lines)
		}
	})
}
