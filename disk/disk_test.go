package disk

import (
	"math"
	"math/rand"
	"strings"
	"testing"

	"tidemark/api"
)

const maxCapacity = 1048576

var wrongSlots = []int{-1, 2, 3, 256, math.MinInt, math.MaxInt}

// wantSlots holds each slot to its synced bytes and the others.
func wantSlots(t *testing.T, d *Disk, synced0, unsynced0, synced1, unsynced1 string) {
	t.Helper()
	for i, w := range [2][2]string{{synced0, unsynced0}, {synced1, unsynced1}} {
		if got := d.Bytes(i); got != w[0]+w[1] {
			t.Errorf("Bytes(%d) = %q, want %q", i, got, w[0]+w[1])
		}
		if got := d.Synced(i); got != len(w[0]) {
			t.Errorf("Synced(%d) = %d, want %d", i, got, len(w[0]))
		}
	}
}

func wantRoom(t *testing.T, d *Disk, used, free int) {
	t.Helper()
	if d.Used() != used || d.Free() != free {
		t.Errorf("Used, Free = %d, %d, want %d, %d", d.Used(), d.Free(), used, free)
	}
}

func wantAppend(t *testing.T, d *Disk, slot int, b string, want api.Errno) {
	t.Helper()
	if got := d.Append(slot, b); got != want {
		t.Errorf("Append(%d, %d bytes) = %d, want %d", slot, len(b), got, want)
	}
}

func wantTruncate(t *testing.T, d *Disk, slot, n int, want api.Errno) {
	t.Helper()
	if got := d.Truncate(slot, n); got != want {
		t.Errorf("Truncate(%d, %d) = %d, want %d", slot, n, got, want)
	}
}

func wantRemove(t *testing.T, d *Disk, slot int, want api.Errno) {
	t.Helper()
	if got := d.Remove(slot); got != want {
		t.Errorf("Remove(%d) = %d, want %d", slot, got, want)
	}
}

// filled is a disk of the capacity 20 with synced and unsynced bytes in both slots: "abc" / "de" and "w" / "xyz".
func filled() *Disk {
	d := New(20)
	d.Append(0, "abc")
	d.Append(1, "w")
	d.Sync()
	d.Append(0, "de")
	d.Append(1, "xyz")
	return d
}

// P6.1 to P6.7, by the chapter's table.
func TestTheChaptersExamples(t *testing.T) {
	d := New(10)
	wantAppend(t, d, 0, "abc", api.OK)
	wantSlots(t, d, "", "abc", "", "")
	wantAppend(t, d, 1, "wxyz", api.OK)
	wantSlots(t, d, "", "abc", "", "wxyz")
	wantAppend(t, d, 0, "1234", api.ErrFull)
	wantAppend(t, d, 2, "123456789", api.ErrSlot)
	wantSlots(t, d, "", "abc", "", "wxyz")
	wantRoom(t, d, 7, 3)
	wantTruncate(t, d, 1, 3, api.OK)
	wantSlots(t, d, "", "abc", "", "wxy")
	wantTruncate(t, d, 1, 4, api.ErrSlot)
	d.Sync()
	wantSlots(t, d, "abc", "", "wxy", "")
	wantAppend(t, d, 0, "def", api.OK)
	wantAppend(t, d, 1, "z", api.OK)
	wantSlots(t, d, "abc", "def", "wxy", "z")
	wantRoom(t, d, 10, 0)
	wantAppend(t, d, 0, "", api.OK)
	wantAppend(t, d, 0, "g", api.ErrFull)
	wantTruncate(t, d, 0, 5, api.OK)
	wantSlots(t, d, "abc", "de", "wxy", "z")
	d.Crash(1, -7)
	wantSlots(t, d, "abcd", "", "wxy", "")
	wantTruncate(t, d, 0, 2, api.OK)
	wantSlots(t, d, "ab", "", "wxy", "")
	wantRemove(t, d, 1, api.OK)
	wantSlots(t, d, "ab", "", "", "")
}

// P6.1
func TestANewDiskIsEmptyAndItsCapacityHeldWithinTheLimits(t *testing.T) {
	for _, c := range []struct{ asked, capacity int }{
		{math.MinInt, 0}, {-1, 0}, {0, 0}, {1, 1}, {255, 255}, {256, 256},
		{maxCapacity - 1, maxCapacity - 1}, {maxCapacity, maxCapacity}, {maxCapacity + 1, maxCapacity}, {math.MaxInt, maxCapacity},
	} {
		d := New(c.asked)
		wantSlots(t, d, "", "", "", "")
		wantRoom(t, d, 0, c.capacity)
		wantAppend(t, d, 0, strings.Repeat("x", c.capacity+1), api.ErrFull)
		wantRoom(t, d, 0, c.capacity)
		wantAppend(t, d, 0, strings.Repeat("x", c.capacity), api.OK)
		wantRoom(t, d, c.capacity, 0)
		wantAppend(t, d, 1, "x", api.ErrFull)
		wantRoom(t, d, c.capacity, 0)
	}
}

// P6.1
func TestBothSlotsShareTheRoomAndGiveItBack(t *testing.T) {
	d := New(10)
	wantAppend(t, d, 0, "123456", api.OK)
	wantAppend(t, d, 1, "12345", api.ErrFull)
	wantAppend(t, d, 1, "1234", api.OK)
	wantRoom(t, d, 10, 0)
	d.Sync()
	wantRoom(t, d, 10, 0)
	wantTruncate(t, d, 0, 4, api.OK)
	wantRoom(t, d, 8, 2)
	wantRemove(t, d, 1, api.OK)
	wantRoom(t, d, 4, 6)
	wantAppend(t, d, 1, "123456", api.OK)
	d.Crash(0, 1)
	wantRoom(t, d, 5, 5)
	wantAppend(t, d, 0, "12345", api.OK)
	wantRoom(t, d, 10, 0)
}

// P6.2
func TestAppendLaysBytesBehindTheSlotsOwnUnsynced(t *testing.T) {
	d := New(100)
	wantAppend(t, d, 1, "\x00\xff", api.OK)
	wantAppend(t, d, 1, "", api.OK)
	wantAppend(t, d, 1, "é\n", api.OK)
	wantSlots(t, d, "", "", "", "\x00\xffé\n")
	d.Sync()
	wantAppend(t, d, 0, "a", api.OK)
	wantAppend(t, d, 1, "b", api.OK)
	wantAppend(t, d, 0, "", api.OK)
	wantSlots(t, d, "", "a", "\x00\xffé\n", "b")
}

// P6.2
func TestAppendThatIsRefusedWritesNoPart(t *testing.T) {
	d := filled()
	room := strings.Repeat("r", 11)
	for _, slot := range wrongSlots {
		wantAppend(t, d, slot, "", api.ErrSlot)
		wantAppend(t, d, slot, "r", api.ErrSlot)
		wantAppend(t, d, slot, room+"r", api.ErrSlot) // both errors apply: the slot's comes first
	}
	for slot := range 2 {
		wantAppend(t, d, slot, room+"r", api.ErrFull)
		wantAppend(t, d, slot, strings.Repeat("r", 1000), api.ErrFull)
	}
	wantSlots(t, d, "abc", "de", "w", "xyz")
	wantRoom(t, d, 9, 11)
	wantAppend(t, d, 0, room, api.OK)
	wantSlots(t, d, "abc", "de"+room, "w", "xyz")
}

// P6.2
func TestAnEmptyTextGoesIntoAFullDiskOfARightSlot(t *testing.T) {
	for _, capacity := range []int{0, 3} {
		d := New(capacity)
		d.Append(0, "abc"[:capacity])
		d.Sync()
		wantAppend(t, d, 0, "", api.OK)
		wantAppend(t, d, 1, "", api.OK)
		wantAppend(t, d, 2, "", api.ErrSlot)
		wantAppend(t, d, 0, "g", api.ErrFull)
		wantSlots(t, d, "abc"[:capacity], "", "", "")
	}
}

// P6.3
func TestSyncMakesAllBytesOfBothSlotsSynced(t *testing.T) {
	d := filled()
	d.Sync()
	wantSlots(t, d, "abcde", "", "wxyz", "")
	d.Sync()
	wantSlots(t, d, "abcde", "", "wxyz", "")
	d.Append(1, "!")
	wantSlots(t, d, "abcde", "", "wxyz", "!")
	d.Sync()
	wantSlots(t, d, "abcde", "", "wxyz!", "")
	empty := New(5)
	empty.Sync()
	wantSlots(t, empty, "", "", "", "")
}

// P6.4
func TestAWrongSlotHasNoBytes(t *testing.T) {
	d := filled()
	for _, slot := range wrongSlots {
		if b, n := d.Bytes(slot), d.Synced(slot); b != "" || n != 0 {
			t.Errorf("slot %d: %q, %d, want nothing", slot, b, n)
		}
	}
	wantSlots(t, d, "abc", "de", "w", "xyz")
}

// P6.5
func TestTruncateKeepsTheFirstBytesAsTheyWere(t *testing.T) {
	for n := range 6 {
		d := filled()
		wantTruncate(t, d, 0, n, api.OK)
		wantSlots(t, d, "abc"[:min(n, 3)], "de"[:max(n-3, 0)], "w", "xyz")
	}
	for n := range 5 {
		d := filled()
		wantTruncate(t, d, 1, n, api.OK)
		wantSlots(t, d, "abc", "de", "w"[:min(n, 1)], "xyz"[:max(n-1, 0)])
	}
}

// P6.5
func TestTruncateRefusesAWrongSlotAndAWrongPlace(t *testing.T) {
	d := filled()
	for _, slot := range wrongSlots {
		for _, n := range []int{-1, 0, 1} {
			wantTruncate(t, d, slot, n, api.ErrSlot)
		}
	}
	for _, n := range []int{-1, -5, 6, 20, 21, math.MinInt, math.MaxInt} { // there is room for 6, and spare memory may be: no bytes
		wantTruncate(t, d, 0, n, api.ErrSlot)
	}
	wantTruncate(t, d, 1, 5, api.ErrSlot) // as many as slot 0 has
	wantSlots(t, d, "abc", "de", "w", "xyz")
	empty := New(5)
	wantTruncate(t, empty, 0, 0, api.OK)
	wantTruncate(t, empty, 0, 1, api.ErrSlot)
	wantSlots(t, empty, "", "", "", "")
}

// P6.5
func TestWhatWasCutOffDoesNotComeBack(t *testing.T) {
	d := filled()
	wantTruncate(t, d, 0, 2, api.OK)
	wantTruncate(t, d, 1, 3, api.OK)
	d.Crash(math.MaxInt, math.MaxInt)
	wantSlots(t, d, "ab", "", "wxy", "")
	wantTruncate(t, d, 0, 3, api.ErrSlot)
	d.Append(0, "C")
	d.Crash(0, 0)
	wantSlots(t, d, "ab", "", "wxy", "")
	d.Append(0, "CD")
	wantSlots(t, d, "ab", "CD", "wxy", "")
}

// P6.6
func TestRemoveEmptiesOneSlotForGood(t *testing.T) {
	d := filled()
	wantRemove(t, d, 0, api.OK)
	wantSlots(t, d, "", "", "w", "xyz")
	d.Crash(math.MaxInt, 0)
	wantSlots(t, d, "", "", "w", "")
	wantRemove(t, d, 0, api.OK)
	wantRemove(t, d, 1, api.OK)
	wantSlots(t, d, "", "", "", "")
	d.Append(1, "q")
	wantSlots(t, d, "", "", "", "q")
}

// P6.6
func TestRemoveRefusesAWrongSlot(t *testing.T) {
	d := filled()
	for _, slot := range wrongSlots {
		wantRemove(t, d, slot, api.ErrSlot)
	}
	wantSlots(t, d, "abc", "de", "w", "xyz")
}

// P6.7
func TestCrashKeepsWhatIsSyncedAndABeginningOfTheRest(t *testing.T) {
	keeps := []int{math.MinInt, -7, -1, 0, 1, 2, 3, 4, 5, 100, math.MaxInt - 1, math.MaxInt}
	for _, keep0 := range keeps {
		for _, keep1 := range keeps {
			d := filled()
			d.Crash(keep0, keep1)
			left0, left1 := "abc"+"de"[:min(max(keep0, 0), 2)], "w"+"xyz"[:min(max(keep1, 0), 3)]
			wantSlots(t, d, left0, "", left1, "")
			wantRoom(t, d, len(left0)+len(left1), 20-len(left0)-len(left1))
			d.Crash(0, 0)
			wantSlots(t, d, left0, "", left1, "")
		}
	}
}

// P6.7
func TestADiskGoesOnBehindACrash(t *testing.T) {
	d := filled()
	d.Crash(1, 0)
	wantAppend(t, d, 0, "E", api.OK)
	wantAppend(t, d, 1, "X", api.OK)
	wantSlots(t, d, "abcd", "E", "w", "X")
	d.Crash(0, 1)
	wantSlots(t, d, "abcd", "", "wX", "")
	d.Append(0, "F")
	d.Sync()
	wantSlots(t, d, "abcdF", "", "wX", "")
	empty := New(3)
	empty.Crash(4, 4)
	wantSlots(t, empty, "", "", "", "")
	wantAppend(t, empty, 0, "abc", api.OK)
}

// P6.8
func TestACloneHasTheSameAndStaysApart(t *testing.T) {
	acts := []func(*Disk){
		func(d *Disk) { d.Append(0, "0123456789") },
		func(d *Disk) { d.Append(1, "!") },
		func(d *Disk) { d.Truncate(0, 1); d.Append(0, "BCDEFG") },
		func(d *Disk) { d.Truncate(1, 2); d.Append(1, "Y") },
		func(d *Disk) { d.Remove(0); d.Append(0, "ABC") },
		func(d *Disk) { d.Sync() },
		func(d *Disk) { d.Crash(0, 0); d.Append(0, "DE"); d.Append(1, "XYZ") },
		func(d *Disk) { d.Crash(1, 2); d.Append(0, "E"); d.Append(1, "Z") },
	}
	for _, act := range acts {
		for _, old := range []bool{true, false} {
			d := filled()
			c := d.Clone()
			wantSlots(t, c, "abc", "de", "w", "xyz")
			wantRoom(t, c, 9, 11)
			if old {
				act(d)
				wantSlots(t, c, "abc", "de", "w", "xyz")
				wantRoom(t, c, 9, 11)
			} else {
				act(c)
				wantSlots(t, d, "abc", "de", "w", "xyz")
				wantRoom(t, d, 9, 11)
			}
		}
	}
}

// P6.8
func TestADiskAndItsCloneAddInTurns(t *testing.T) {
	d := New(1000)
	c := d.Clone()
	var want, wantClone string
	for i := range 100 {
		d.Append(0, string(byte('a'+i%26)))
		want += string(byte('a' + i%26))
		c.Append(0, string(byte('A'+i%26)))
		wantClone += string(byte('A' + i%26))
		if i%10 == 9 {
			c = d.Clone()
			wantClone = want
		}
		wantSlots(t, d, "", want, "", "")
		wantSlots(t, c, "", wantClone, "", "")
	}
	full := New(3)
	full.Append(1, "abc")
	wantAppend(t, full.Clone(), 0, "d", api.ErrFull)
	wantRoom(t, New(-4).Clone(), 0, 0)
	wantRoom(t, New(maxCapacity+9).Clone(), 0, maxCapacity)
}

// P6.8, and the chapter's section 'Ways': what is handed on has no room behind it.
func TestAddingBehindAPartLeavesWhatIsKept(t *testing.T) {
	var s slot
	s.add("abcdefgh")
	for n := range 9 {
		part := s.first(n)
		if len(part) != n || cap(part) != n {
			t.Errorf("first(%d) has %d bytes and room for %d", n, len(part), cap(part))
		}
		_ = append(part, "XYZ"...)
		if got := string(s.bytes); got != "abcdefgh" {
			t.Errorf("behind adding to first(%d) the slot has %q", n, got)
		}
	}
	kept := s // who holds on to the bytes of a slot sees nothing of what follows a cut
	s.cut(3)
	s.add("XYZ")
	if got := string(kept.bytes); got != "abcdefgh" {
		t.Errorf("a slot that was cut and added to has written into what is kept: %q", got)
	}
}

// P6.9
func TestWhatIsSyncedIsNeverLost(t *testing.T) {
	r := rand.New(rand.NewSource(69))
	for range 300 {
		d := New(150)
		var sure [2]string // what must stand at each slot's beginning
		for range 40 {
			switch r.Intn(6) {
			case 0, 1, 2:
				d.Append(r.Intn(4)-1, text(r, r.Intn(20)))
			case 3:
				d.Truncate(r.Intn(4)-1, 151)
				d.Remove(2)
			case 4:
				d.Sync()
				sure = [2]string{d.Bytes(0), d.Bytes(1)}
			case 5:
				ahead := [2]string{d.Bytes(0), d.Bytes(1)}
				d.Crash(r.Intn(30)-5, r.Intn(30)-5)
				for i, was := range ahead {
					sure[i] = d.Bytes(i)
					if !strings.HasPrefix(was, sure[i]) || d.Synced(i) != len(sure[i]) {
						t.Fatalf("behind a crash slot %d has %q, %d synced; ahead of it %q", i, sure[i], d.Synced(i), was)
					}
				}
			}
			for i, s := range sure {
				if !strings.HasPrefix(d.Bytes(i), s) || d.Synced(i) < len(s) {
					t.Fatalf("slot %d has %q, %d synced, and has lost some of %q", i, d.Bytes(i), d.Synced(i), s)
				}
			}
		}
	}
}

// P6.10
func TestTextsThatWereToldStayAsTheyWere(t *testing.T) {
	d := filled()
	told0, told1 := d.Bytes(0), d.Bytes(1)
	d.Truncate(0, 0)
	d.Append(0, "VWXYZ")
	d.Truncate(1, 1)
	d.Append(1, "ABC")
	again := d.Bytes(0)
	d.Crash(0, 0)
	d.Append(0, "12345")
	if told0 != "abcde" || told1 != "wxyz" || again != "VWXYZ" {
		t.Errorf("told texts have become %q, %q, %q", told0, told1, again)
	}
}

// P6.10
func TestNoCallPanicsAtAnyNumber(t *testing.T) {
	numbers := []int{math.MinInt, -1 << 31, -2, -1, 0, 1, 2, 3, maxCapacity, maxCapacity + 1, 1 << 31, math.MaxInt}
	for _, a := range numbers {
		for _, b := range numbers {
			d := New(a)
			for _, text := range []string{"", "a", "abcdefgh"} {
				d.Append(b, text)
				d.Bytes(b)
				d.Synced(b)
				d.Truncate(a, b)
				d.Clone().Crash(a, b)
				d.Crash(a, b)
				d.Remove(b)
			}
			if d.Used() < 0 || d.Free() < 0 {
				t.Errorf("New(%d): %d used, %d free", a, d.Used(), d.Free())
			}
		}
	}
}

// slotModel tells a slot's bytes by two texts.
type slotModel struct{ synced, unsynced string }

func (m slotModel) all() string { return m.synced + m.unsynced }

func (m slotModel) first(n int) slotModel {
	cut := min(n, len(m.synced))
	return slotModel{m.synced[:cut], m.unsynced[:n-cut]}
}

func (m slotModel) crash(keep int) slotModel {
	return slotModel{synced: m.synced + m.unsynced[:min(max(keep, 0), len(m.unsynced))]}
}

type pair struct {
	d     *Disk
	slots [2]slotModel
	size  int
}

func (p *pair) free() int { return p.size - len(p.slots[0].all()) - len(p.slots[1].all()) }

func (p *pair) append(t *testing.T, slot int, b string) {
	t.Helper()
	want := api.OK
	if slot < 0 || slot > 1 {
		want = api.ErrSlot
	} else if len(b) > p.free() {
		want = api.ErrFull
	} else {
		p.slots[slot].unsynced += b
	}
	wantAppend(t, p.d, slot, b, want)
}

func (p *pair) truncate(t *testing.T, slot, n int) {
	t.Helper()
	want := api.OK
	if slot < 0 || slot > 1 || n < 0 || n > len(p.slots[slot].all()) {
		want = api.ErrSlot
	} else {
		p.slots[slot] = p.slots[slot].first(n)
	}
	wantTruncate(t, p.d, slot, n, want)
}

func (p *pair) remove(t *testing.T, slot int) {
	t.Helper()
	want := api.OK
	if slot < 0 || slot > 1 {
		want = api.ErrSlot
	} else {
		p.slots[slot] = slotModel{}
	}
	wantRemove(t, p.d, slot, want)
}

func (p *pair) act(t *testing.T, r *rand.Rand) {
	t.Helper()
	slot := r.Intn(4) - 1
	switch r.Intn(9) {
	case 0, 1, 2, 3:
		p.append(t, slot, text(r, r.Intn(24)))
	case 4, 5:
		p.truncate(t, slot, r.Intn(60)-5)
	case 6:
		p.remove(t, slot)
	case 7:
		p.d.Sync()
		for i, m := range p.slots {
			p.slots[i] = slotModel{synced: m.all()}
		}
	case 8:
		keep := [2]int{r.Intn(40) - 8, r.Intn(40) - 8}
		p.d.Crash(keep[0], keep[1])
		for i, m := range p.slots {
			p.slots[i] = m.crash(keep[i])
		}
	}
}

func (p *pair) check(t *testing.T) {
	t.Helper()
	a, b := p.slots[0], p.slots[1]
	wantSlots(t, p.d, a.synced, a.unsynced, b.synced, b.unsynced)
	wantRoom(t, p.d, p.size-p.free(), p.free())
}

func text(r *rand.Rand, n int) string {
	b := make([]byte, n)
	r.Read(b)
	return string(b)
}

// P6.1 to P6.10: disks and their clones in random lives, against texts that Go's own means cut.
func TestDisksAgreeWithAModel(t *testing.T) {
	r := rand.New(rand.NewSource(6))
	for range 60 {
		size := r.Intn(120)
		all := []*pair{{d: New(size), size: size}}
		for range 120 {
			p := all[r.Intn(len(all))]
			if len(all) < 4 && r.Intn(12) == 0 {
				all = append(all, &pair{d: p.d.Clone(), slots: p.slots, size: p.size})
			}
			p.act(t, r)
			for _, p := range all {
				p.check(t)
			}
			if t.Failed() {
				return
			}
		}
	}
}
