package wal

import (
	"math"
	"math/rand"
	"slices"
	"strings"
	"testing"

	"tidemark/api"
	"tidemark/disk"
)

// wantDisk holds each slot to its synced bytes and the others.
func wantDisk(t *testing.T, what string, d *disk.Disk, synced0, unsynced0, synced1, unsynced1 string) {
	t.Helper()
	for i, w := range [2][2]string{{synced0, unsynced0}, {synced1, unsynced1}} {
		if d.Bytes(i) != w[0]+w[1] || d.Synced(i) != len(w[0]) {
			t.Errorf("%s: slot %d has %.200x, %d synced, want %.200x, %d synced", what, i, d.Bytes(i), d.Synced(i), w[0]+w[1], len(w[0]))
		}
	}
}

func wantLog(t *testing.T, what string, l *Log, end, synced int, generation uint64) {
	t.Helper()
	if l.End() != end || l.Synced() != synced || l.Generation() != generation {
		t.Errorf("%s: End, Synced, Generation = %d, %d, %d, want %d, %d, %d", what, l.End(), l.Synced(), l.Generation(), end, synced, generation)
	}
}

func wantErrno(t *testing.T, what string, got, want api.Errno) {
	t.Helper()
	if got != want {
		t.Errorf("%s = %d, want %d", what, got, want)
	}
}

// open opens a disk that has room for a log, and holds the answer to its records.
func open(t *testing.T, what string, d *disk.Disk, records ...api.Record) *Log {
	t.Helper()
	l, got, e := Open(d)
	if l == nil || e != api.OK || !allAlike(got, records) {
		t.Fatalf("%s: Open = %v, %.300v, %d, want a log, %.300v, OK", what, l, got, e, records)
	}
	return l
}

// diskOf makes a disk with unsynced bytes in both slots.
func diskOf(capacity int, a, b string) *disk.Disk {
	d := disk.New(capacity)
	if d.Append(0, a) != api.OK || d.Append(1, b) != api.OK {
		panic("no room")
	}
	return d
}

// P7.6 to P7.10: the chapter's table.
func TestTheChaptersTable(t *testing.T) {
	r5, r6, r7, r8, im := reserve(5), reserve(6), reserve(7), reserve(8), image("x")
	d := disk.New(1000)
	l := open(t, "new", d)
	wantDisk(t, "new", d, h(1), "", "", "")
	wantLog(t, "new", l, 0, 0, 1)
	wantErrno(t, "Append(R5)", l.Append(r5), api.OK)
	wantErrno(t, "Append(R6)", l.Append(r6), api.OK)
	wantDisk(t, "two", d, h(1), all(r5, r6), "", "")
	wantLog(t, "two", l, 2, 0, 1)
	l.Sync()
	wantDisk(t, "two synced", d, h(1)+all(r5, r6), "", "", "")
	wantLog(t, "two synced", l, 2, 2, 1)
	wantErrno(t, "Append(R7)", l.Append(r7), api.OK)
	wantErrno(t, "Checkpoint(x)", l.Checkpoint("x"), api.OK)
	wantDisk(t, "pending", d, h(1)+all(r5, r6), all(r7), "", h(2)+all(im))
	wantLog(t, "pending", l, 3, 2, 2)
	wantErrno(t, "Append(R8)", l.Append(r8), api.OK)
	wantErrno(t, "Checkpoint(y)", l.Checkpoint("y"), api.ErrPending)
	wantDisk(t, "pending, one more", d, h(1)+all(r5, r6), all(r7), "", h(2)+all(im, r8))
	wantLog(t, "pending, one more", l, 4, 2, 2)

	for _, c := range []struct {
		keep0, keep1 int
		records      []api.Record
	}{
		{0, 0, []api.Record{r5, r6}}, {0, 35, []api.Record{im, r8}}, {10, 35, []api.Record{im, r8}}, {10, 14 + 5, []api.Record{r5, r6, r7}},
	} {
		twin := d.Clone()
		twin.Crash(c.keep0, c.keep1)
		open(t, "behind a crash", twin, c.records...)
	}

	l.Sync()
	wantDisk(t, "settled", d, "", "", h(2)+all(im, r8), "")
	wantLog(t, "settled", l, 4, 4, 2)
	wantErrno(t, "Append(image)", l.Append(im), api.ErrRecord)
	wantDisk(t, "refused", d, "", "", h(2)+all(im, r8), "")
	wantLog(t, "refused", l, 4, 4, 2)
}

// P7.6
func TestOpenOfNoDisk(t *testing.T) {
	if l, records, e := Open(nil); l != nil || len(records) != 0 || e != api.ErrArg {
		t.Errorf("Open(nil) = %v, %v, %d", l, records, e)
	}
}

// P7.6
func TestOpenWhereTheHeaderHasNoRoom(t *testing.T) {
	for _, capacity := range []int{0, 1, 13} {
		for _, rubbish := range []string{"", "r"} {
			d := disk.New(capacity)
			d.Append(0, rubbish)
			d.Append(1, rubbish)
			if l, records, e := Open(d); l != nil || len(records) != 0 || e != api.ErrFull {
				t.Errorf("Open on %d bytes = %v, %v, %d", capacity, l, records, e)
			}
			wantDisk(t, "no room", d, "", "", "", "")
		}
	}
	d := disk.New(14)
	l := open(t, "just room", d)
	wantDisk(t, "just room", d, h(1), "", "", "")
	wantErrno(t, "Append", l.Append(reserve(5)), api.ErrFull)
	full := diskOf(20, strings.Repeat("r", 12), strings.Repeat("s", 8))
	open(t, "rubbish that takes all the room", full)
	wantDisk(t, "rubbish that takes all the room", full, h(1), "", "", "")
}

// P7.6: what is on a disk, and what Open makes of it.
func TestOpenRecovers(t *testing.T) {
	r5, r6, im := reserve(5), reserve(6), image("x")
	for _, c := range []struct {
		what, a, b string
		slot       int
		left       string
		generation uint64
		records    []api.Record
	}{
		{"nothing", "", "", 0, h(1), 1, nil},
		{"rubbish", "rubbish", h(2), 0, h(1), 1, nil},
		{"rubbish like a log", "x" + h(1), h(2) + all(r5), 0, h(1), 1, nil},
		{"slot 0", h(1) + all(r5), "", 0, h(1) + all(r5), 1, []api.Record{r5}},
		{"slot 0, torn", h(1) + all(r5) + all(r6)[:9], "rubbish", 0, h(1) + all(r5), 1, []api.Record{r5}},
		{"slot 1", "", h(1) + all(r5), 1, h(1) + all(r5), 1, []api.Record{r5}},
		{"slot 1 with rubbish", "rubbish", h(2) + all(im, r5) + "rubbish", 1, h(2) + all(im, r5), 2, []api.Record{im, r5}},
		{"slot 1 is higher", h(1) + all(r5), h(2) + all(im), 1, h(2) + all(im), 2, []api.Record{im}},
		{"slot 0 is higher", h(3) + all(im, r6), h(2) + all(im, r5), 0, h(3) + all(im, r6), 3, []api.Record{im, r6}},
		{"slot 1 is torn", h(1) + all(r5), h(2) + all(im)[:10], 0, h(1) + all(r5), 1, []api.Record{r5}},
		{"one generation", h(4) + all(im), h(4) + all(im, r5), 0, h(4) + all(im), 4, []api.Record{im}},
		{"an image in generation 1", h(1) + all(r5, im, r6), "", 0, h(1) + all(r5), 1, []api.Record{r5}},
		{"two images", h(2) + all(im, r5, im), "", 0, h(2) + all(im, r5), 2, []api.Record{im, r5}},
		{"the last generation", h(topGeneration) + all(im), h(topGeneration-1) + all(im, r5), 0, h(topGeneration) + all(im), topGeneration, []api.Record{im}},
		{"beyond the last", h(topGeneration+1) + all(im), "", 0, h(1), 1, nil},
	} {
		for _, synced := range []bool{false, true} { // it is all the same to Open
			d := diskOf(1000, c.a, c.b)
			if synced {
				d.Sync()
			}
			l := open(t, c.what, d, c.records...)
			wantLog(t, c.what, l, 0, 0, c.generation)
			var left, more [2]string
			left[c.slot], more[c.slot] = c.left, all(r6)
			wantDisk(t, c.what, d, left[0], "", left[1], "")
			wantErrno(t, c.what, l.Append(r6), api.OK)
			wantDisk(t, c.what, d, left[0], more[0], left[1], more[1])
			wantLog(t, c.what, l, 1, 0, c.generation)
		}
	}
}

// P7.7
func TestAppendRefusesInItsOrder(t *testing.T) {
	d := disk.New(14 + 10)
	l := open(t, "new", d)
	wrong := slices.Concat(badFields(), farOutcomes(), strangers(), noKinds(), []api.Record{image(""), image("x"), image(strings.Repeat("i", longImage))})
	refuse := func(what, unsynced string, end int) {
		for _, r := range wrong {
			wantErrno(t, what, l.Append(r), api.ErrRecord)
		}
		for _, r := range []api.Record{reserve(128), one(api.RecPrepare), one(api.RecDecide), one(api.RecMark)} {
			wantErrno(t, what, l.Append(r), api.ErrFull)
		}
		wantDisk(t, what, d, h(1), unsynced, "", "")
		wantLog(t, what, l, end, 0, 1)
	}
	refuse("room for ten bytes", "", 0)
	wantErrno(t, "Append of ten bytes", l.Append(reserve(127)), api.OK)
	refuse("no room", all(reserve(127)), 1)
	wantErrno(t, "Append of ten bytes more", l.Append(reserve(5)), api.ErrFull)
	l.Sync()
	wantLog(t, "synced", l, 1, 1, 1)
}

// P7.7
func TestAppendLaysAllKindsBehindOneAnother(t *testing.T) {
	d := disk.New(api.MaxCapacity)
	l := open(t, "new", d)
	var list []api.Record
	for _, r := range goodRecords() {
		if r.Kind == api.RecImage {
			continue
		}
		wantErrno(t, "Append", l.Append(r), api.OK)
		list = append(list, r)
		wantDisk(t, "Append", d, h(1), all(list...), "", "")
		wantLog(t, "Append", l, len(list), 0, 1)
	}
	l.Sync()
	wantDisk(t, "Sync", d, h(1)+all(list...), "", "", "")
	wantLog(t, "Sync", l, len(list), len(list), 1)
	open(t, "again", d, list...)
}

// DOC.md, 'Lists'.
func TestAppendKeepsAndChangesNothingOfTheLists(t *testing.T) {
	d := disk.New(1000)
	l := open(t, "new", d)
	r := roomy(one(api.RecPrepare))
	ahead := whole(r)
	wantErrno(t, "Append", l.Append(r), api.OK)
	if got := whole(r); !alike(got, ahead) {
		t.Errorf("the record was changed to %v", got)
	}
	r.Reads[0].Lo, r.Writes[0].Key = "changed", "changed"
	l.Sync()
	open(t, "again", d, one(api.RecPrepare))
}

// P7.8
func TestTheCountsNeverFall(t *testing.T) {
	d := disk.New(10000)
	l := open(t, "new", d)
	end, synced := 0, 0
	for g := uint64(1); g < 20; g++ {
		for range 3 {
			wantErrno(t, "Append", l.Append(reserve(g)), api.OK)
			end++
			wantLog(t, "Append", l, end, synced, g)
		}
		wantErrno(t, "Checkpoint", l.Checkpoint("x"), api.OK)
		wantLog(t, "Checkpoint", l, end, synced, g+1)
		wantErrno(t, "Append", l.Append(reserve(g)), api.OK)
		end++
		wantErrno(t, "Append of nothing", l.Append(api.Record{}), api.ErrRecord)
		wantLog(t, "pending", l, end, synced, g+1)
		l.Sync()
		synced = end
		wantLog(t, "Sync", l, end, synced, g+1)
		l.Sync()
		wantLog(t, "Sync again", l, end, synced, g+1)
	}
	again := open(t, "again", d, image("x"), reserve(19))
	wantLog(t, "again", again, 0, 0, 20)
}

// P7.9
func TestSyncLetsTheEarlierGenerationGoOnce(t *testing.T) {
	d := disk.New(1000)
	l := open(t, "new", d)
	l.Sync()
	wantDisk(t, "nothing pending", d, h(1), "", "", "")
	wantErrno(t, "Checkpoint", l.Checkpoint("x"), api.OK)
	l.Sync()
	wantDisk(t, "synced", d, "", "", h(2)+all(image("x")), "")
	wantErrno(t, "Append", l.Append(reserve(5)), api.OK)
	l.Sync()
	wantDisk(t, "synced again", d, "", "", h(2)+all(image("x"), reserve(5)), "")
	wantErrno(t, "Checkpoint", l.Checkpoint("y"), api.OK)
	wantDisk(t, "slot 0 again", d, "", h(3)+all(image("y")), h(2)+all(image("x"), reserve(5)), "")
	wantErrno(t, "Checkpoint while one is pending", l.Checkpoint("z"), api.ErrPending)
	l.Sync()
	wantDisk(t, "slot 1 is let go", d, h(3)+all(image("y")), "", "", "")
	wantErrno(t, "Checkpoint when none is pending", l.Checkpoint("z"), api.OK)
}

// P7.10: where several errors apply, the first is told; with any of them nothing changes.
func TestCheckpointRefusesInItsOrder(t *testing.T) {
	tooLong, longest := strings.Repeat("i", longImage+1), strings.Repeat("i", longImage)
	d := disk.New(14 + 24)
	l := open(t, "new", d)
	wantErrno(t, "too long, and no room", l.Checkpoint(tooLong), api.ErrRecord)
	wantErrno(t, "no room for the longest", l.Checkpoint(longest), api.ErrFull)
	wantErrno(t, "no room for both, but for each", l.Checkpoint("x"), api.ErrFull)
	wantDisk(t, "refused", d, h(1), "", "", "")
	wantLog(t, "refused", l, 0, 0, 1)
	wantErrno(t, "just room", l.Checkpoint(""), api.OK)
	for _, image := range []string{"", "x", tooLong, longest} {
		wantErrno(t, "pending", l.Checkpoint(image), api.ErrPending)
	}
	wantDisk(t, "pending", d, h(1), "", "", h(2)+all(image("")))
	wantLog(t, "pending", l, 0, 0, 2)
	l.Sync()
	wantErrno(t, "too long, and no room", l.Checkpoint(tooLong), api.ErrRecord)
	wantErrno(t, "no room in the other slot", l.Checkpoint(""), api.ErrFull)
	wantErrno(t, "but for a record", l.Append(reserve(5)), api.OK)
	wantDisk(t, "slot 1 goes on", d, "", "", h(2)+all(image("")), all(reserve(5)))
	wantLog(t, "slot 1 goes on", l, 1, 0, 2)
}

// P7.10: the room of both together, to the byte.
func TestCheckpointNeedsRoomForHeaderAndImage(t *testing.T) {
	for _, size := range []int{0, 1, 100, 127, 128, 20000} {
		text := strings.Repeat("i", size)
		need := len(h(2) + all(image(text)))
		for _, spare := range []int{-20, -1, 0, 1} {
			d := disk.New(14 + 10 + need + spare)
			l := open(t, "new", d)
			wantErrno(t, "Append", l.Append(reserve(5)), api.OK)
			want := api.OK
			if spare < 0 {
				want = api.ErrFull
			}
			wantErrno(t, "Checkpoint", l.Checkpoint(text), want)
			if spare < 0 {
				wantDisk(t, "no room", d, h(1), all(reserve(5)), "", "")
				wantLog(t, "no room", l, 1, 0, 1)
				continue
			}
			wantDisk(t, "room", d, h(1), all(reserve(5)), "", h(2)+all(image(text)))
			wantLog(t, "room", l, 1, 0, 2)
		}
	}
}

// P7.10
func TestCheckpointsEndAtTheLastGeneration(t *testing.T) {
	before := h(topGeneration-1) + all(image("x"))
	d := diskOf(1000, before, "")
	l := open(t, "last but one", d, image("x"))
	wantErrno(t, "Checkpoint", l.Checkpoint("y"), api.OK)
	wantLog(t, "the last one", l, 0, 0, topGeneration)
	wantErrno(t, "pending at the end", l.Checkpoint("z"), api.ErrPending)
	l.Sync()
	last := h(topGeneration) + all(image("y"))
	wantDisk(t, "the last one", d, "", "", last, "")
	wantErrno(t, "too long at the end", l.Checkpoint(strings.Repeat("i", longImage+1)), api.ErrRecord)
	wantErrno(t, "Checkpoint at the end", l.Checkpoint("z"), api.ErrFull)
	wantDisk(t, "refused", d, "", "", last, "")
	wantLog(t, "refused", l, 0, 0, topGeneration)
	wantErrno(t, "Append", l.Append(reserve(5)), api.OK)
	l.Sync()
	open(t, "again", d, image("y"), reserve(5))
}

// P7.10: the longest image that a disk of the greatest capacity has room for.
func TestCheckpointFillsADisk(t *testing.T) {
	d := disk.New(api.MaxCapacity)
	l := open(t, "new", d)
	text := strings.Repeat("i", api.MaxCapacity-14-14-8-4)
	wantErrno(t, "one byte too many", l.Checkpoint(text+"i"), api.ErrFull)
	wantErrno(t, "just room", l.Checkpoint(text), api.OK)
	wantErrno(t, "Append", l.Append(reserve(5)), api.ErrFull)
	l.Sync()
	wantErrno(t, "Append behind the Sync", l.Append(reserve(5)), api.OK)
	d.Crash(0, 0)
	open(t, "again", d, image(text))
}

// P7.11: the chapter's example, with every crash there is.
func TestEveryCrashOfAPendingCheckpoint(t *testing.T) {
	r5, r6, r7, r8, im := reserve(5), reserve(6), reserve(7), reserve(8), image("x")
	d := disk.New(1000)
	l := open(t, "new", d)
	l.Append(r5)
	l.Append(r6)
	l.Sync()
	l.Append(r7)
	l.Checkpoint("x")
	l.Append(r8)
	for keep0 := -1; keep0 <= 11; keep0++ {
		for keep1 := -1; keep1 <= 36; keep1++ {
			want := []api.Record{r5, r6}
			switch {
			case keep1 >= 35:
				want = []api.Record{im, r8}
			case keep1 >= 25:
				want = []api.Record{im}
			case keep0 >= 10:
				want = []api.Record{r5, r6, r7}
			}
			twin := d.Clone()
			twin.Crash(keep0, keep1)
			again := open(t, "behind a crash", twin, want...)
			wantErrno(t, "Append", again.Append(r8), api.OK)
			again.Sync()
			open(t, "it goes on", twin, append(want, r8)...)
		}
	}
}

// item is one frame that a slot should have: a header, or a record.
type item struct {
	bytes  string
	record *api.Record // nil: a header
}

// modelSlot is what a slot should have.
type modelSlot struct {
	items  []item
	synced int // bytes
}

func (m *modelSlot) text() string {
	var b strings.Builder
	for _, i := range m.items {
		b.WriteString(i.bytes)
	}
	return b.String()
}

func (m *modelSlot) records() []api.Record {
	var list []api.Record
	for _, i := range m.items {
		if i.record != nil {
			list = append(list, *i.record)
		}
	}
	return list
}

func (m *modelSlot) add(bytes string, r *api.Record) { m.items = append(m.items, item{bytes, r}) }

// crash keeps the items that are whole in what is left.
func (m *modelSlot) crash(keep int) {
	text := m.text()
	left := m.synced + min(max(keep, 0), len(text)-m.synced)
	whole, good := 0, 0
	for whole < len(m.items) && good+len(m.items[whole].bytes) <= left {
		good += len(m.items[whole].bytes)
		whole++
	}
	m.items, m.synced = m.items[:whole], good
}

// life is a log with what it should be.
type life struct {
	d          *disk.Disk
	l          *Log
	capacity   int
	slots      [2]modelSlot
	slot       int
	generation uint64
	pending    bool
	end        int
	synced     int
	list       []api.Record   // all that was appended, images left out
	safe       int            // how many of these were synced
	ahead      map[string]int // how many stand ahead of an image
}

func newLife(t *testing.T, capacity int) *life {
	t.Helper()
	d := disk.New(capacity)
	f := &life{d: d, l: open(t, "new", d), capacity: capacity, generation: 1, ahead: map[string]int{}}
	f.slots[0].add(h(1), nil)
	f.slots[0].synced = 14
	return f
}

func (f *life) free() int { return f.capacity - len(f.slots[0].text()) - len(f.slots[1].text()) }

func (f *life) append(t *testing.T, r api.Record) {
	t.Helper()
	if len(bytesOf(r)) > f.free() {
		wantErrno(t, "Append", f.l.Append(r), api.ErrFull)
		return
	}
	wantErrno(t, "Append", f.l.Append(r), api.OK)
	f.slots[f.slot].add(bytesOf(r), &r)
	f.list = append(f.list, r)
	f.end++
}

func (f *life) checkpoint(t *testing.T, text string) {
	t.Helper()
	r := image(text)
	if f.pending {
		wantErrno(t, "Checkpoint", f.l.Checkpoint(text), api.ErrPending)
		return
	}
	if len(h(f.generation+1)+bytesOf(r)) > f.free() {
		wantErrno(t, "Checkpoint", f.l.Checkpoint(text), api.ErrFull)
		return
	}
	wantErrno(t, "Checkpoint", f.l.Checkpoint(text), api.OK)
	f.slot, f.generation, f.pending = 1-f.slot, f.generation+1, true
	f.slots[f.slot].add(h(f.generation), nil)
	f.slots[f.slot].add(bytesOf(r), &r)
	f.ahead[text] = len(f.list)
}

func (f *life) sync() {
	f.l.Sync()
	if f.pending {
		f.slots[1-f.slot], f.pending = modelSlot{}, false
	}
	f.slots[f.slot].synced = len(f.slots[f.slot].text())
	f.synced, f.safe = f.end, len(f.list)
}

// reopen lets the disk crash, if it should, and opens it again.
func (f *life) reopen(t *testing.T, crash bool, keep0, keep1 int) {
	t.Helper()
	if !crash {
		keep0, keep1 = math.MaxInt, math.MaxInt // Open syncs what it finds
	} else {
		f.d.Crash(keep0, keep1)
	}
	f.slots[0].crash(keep0)
	f.slots[1].crash(keep1)
	if f.pending && len(f.slots[f.slot].items) < 2 { // the image did not come through
		f.slots[f.slot] = modelSlot{}
		f.slot, f.generation = 1-f.slot, f.generation-1
	}
	f.slots[1-f.slot], f.pending, f.end, f.synced = modelSlot{}, false, 0, 0
	records := f.slots[f.slot].records()
	f.l = open(t, "behind a crash", f.d, records...)
	f.wantBeginning(t, records)
	f.wantCalm(t, records)
}

// wantBeginning holds records to P7.11: a beginning of all that was appended, with all that was synced.
func (f *life) wantBeginning(t *testing.T, records []api.Record) {
	t.Helper()
	n := 0
	if len(records) > 0 && records[0].Kind == api.RecImage {
		n, records = f.ahead[records[0].Image], records[1:]
	}
	end := n + len(records)
	if end > len(f.list) || end < f.safe || !allAlike(records, f.list[n:end]) {
		t.Fatalf("%d records came back of %d, %d synced: %.300v", end, len(f.list), f.safe, records)
	}
	f.list, f.safe = f.list[:end], end
}

// wantCalm holds a disk that was opened to P7.12.
func (f *life) wantCalm(t *testing.T, records []api.Record) {
	t.Helper()
	f.check(t)
	for _, keep := range []int{-1, 0, 5, math.MaxInt} {
		twin := f.d.Clone()
		if keep >= 0 {
			twin.Crash(keep, keep)
		}
		again := open(t, "opened again", twin, records...)
		wantLog(t, "opened again", again, 0, 0, f.generation)
		wantDisk(t, "opened again", twin, f.d.Bytes(0), "", f.d.Bytes(1), "")
	}
}

func (f *life) check(t *testing.T) {
	t.Helper()
	a, b := f.slots[0].text(), f.slots[1].text()
	wantDisk(t, "life", f.d, a[:f.slots[0].synced], a[f.slots[0].synced:], b[:f.slots[1].synced], b[f.slots[1].synced:])
	wantLog(t, "life", f.l, f.end, f.synced, f.generation)
}

func (f *life) act(t *testing.T, r *rand.Rand) {
	t.Helper()
	switch r.Intn(12) {
	default:
		f.append(t, randomChange(r))
	case 1:
		f.append(t, reserve(uint64(r.Intn(100))))
	case 2, 3:
		f.sync()
	case 4, 5:
		f.checkpoint(t, string([]byte{byte(len(f.ahead) >> 8), byte(len(f.ahead))})+randomText(r, 50)) // no two images are alike
	case 6:
		f.reopen(t, true, r.Intn(120)-10, r.Intn(120)-10)
	case 7:
		f.reopen(t, r.Intn(3) > 0, []int{0, math.MaxInt}[r.Intn(2)], []int{0, math.MaxInt}[r.Intn(2)])
	case 8:
		wantErrno(t, "Append of an image", f.l.Append(image("x")), api.ErrRecord)
		wantErrno(t, "Append of nothing", f.l.Append(api.Record{}), api.ErrRecord)
	}
}

// P7.6 to P7.12: logs in random lives, against what should be on their disks.
func TestLogsAgreeWithAModel(t *testing.T) {
	r := rand.New(rand.NewSource(711))
	for range 300 {
		f := newLife(t, 100+r.Intn(2000))
		for range 80 {
			f.act(t, r)
			f.check(t)
			if t.Failed() {
				return
			}
		}
	}
}

// P7.12: whatever stood on a disk.
func TestRecoveryIsCalm(t *testing.T) {
	r := rand.New(rand.NewSource(712))
	for range 2000 {
		var texts [2]string
		for i := range texts {
			if r.Intn(5) > 0 {
				texts[i] = h(uint64(r.Intn(5)))
			}
			for range r.Intn(4) {
				texts[i] += bytesOf(randomRecord(r))
			}
			texts[i] = texts[i][:len(texts[i])-r.Intn(min(len(texts[i]), 12)+1)]
		}
		d := diskOf(api.MaxCapacity, texts[0], texts[1])
		first, records, e := Open(d)
		if first == nil || e != api.OK {
			t.Fatalf("Open = %d", e)
		}
		a, b := d.Bytes(0), d.Bytes(1)
		wantDisk(t, "opened", d, a, "", b, "")
		if r.Intn(2) == 0 {
			d.Crash(r.Intn(9), r.Intn(9))
		}
		again := open(t, "opened again", d, records...)
		wantDisk(t, "opened again", d, a, "", b, "")
		wantLog(t, "opened again", again, 0, 0, first.Generation())
		if t.Failed() {
			return
		}
	}
}

// DOC.md, 'Objects are apart'.
func TestTwoLogsAreApart(t *testing.T) {
	d := disk.New(1000)
	a := open(t, "a", d)
	a.Append(reserve(5))
	e := d.Clone()
	b := open(t, "b", e, reserve(5))
	a.Append(reserve(6))
	a.Checkpoint("a")
	b.Append(reserve(7))
	b.Sync()
	wantDisk(t, "a", d, h(1), all(reserve(5), reserve(6)), "", h(2)+all(image("a")))
	wantDisk(t, "b", e, h(1)+all(reserve(5), reserve(7)), "", "", "")
	wantLog(t, "a", a, 2, 0, 2)
	wantLog(t, "b", b, 1, 1, 1)
}

// DOC.md, 'Nothing panics': a Log as Go makes it has no disk.
func TestALogWithoutADiskHasNoRoom(t *testing.T) {
	var l Log
	wantErrno(t, "Append", l.Append(reserve(5)), api.ErrFull)
	wantErrno(t, "Append of nothing", l.Append(api.Record{}), api.ErrRecord)
	wantErrno(t, "Checkpoint", l.Checkpoint("x"), api.ErrFull)
	wantErrno(t, "Checkpoint of too much", l.Checkpoint(strings.Repeat("i", longImage+1)), api.ErrRecord)
	l.Sync()
	wantLog(t, "no disk", &l, 0, 0, 0)
	if got, records, e := Open(new(disk.Disk)); got != nil || len(records) != 0 || e != api.ErrFull {
		t.Errorf("Open of a disk as Go makes it = %v, %v, %d", got, records, e)
	}
}
