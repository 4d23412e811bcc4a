package durable

import (
	"testing"

	"tidemark/api"
	"tidemark/disk"
	"tidemark/state"
	"tidemark/wal"
)

func reserve(wall uint64) api.Record { return api.Record{Kind: api.RecReserve, Wall: wall} }

// logged is the bytes of a log with these records.
func logged(t *testing.T, records ...api.Record) string {
	t.Helper()
	d := disk.New(api.MaxCapacity)
	log, _, _ := wal.Open(d)
	for _, r := range records {
		if e := log.Append(r); e != api.OK {
			t.Fatalf("%+v: %d", r, e)
		}
	}
	return d.Bytes(0)
}

// begun is the bytes of a log of the second generation, which begins with that image.
func begun(t *testing.T, image string) string {
	t.Helper()
	d := disk.New(api.MaxCapacity)
	log, _, _ := wal.Open(d)
	if e := log.Checkpoint(image); e != api.OK {
		t.Fatalf("the log begins no generation: %d", e)
	}
	return d.Bytes(1)
}

func shown(first, second string) api.Shown {
	return api.Shown{Disk: [api.Slots]string{first, second}}
}

// wantState holds the state to its node, by an image, and to its ceiling.
func wantState(t *testing.T, what string, place int, s api.Shown, ceiling uint64) {
	t.Helper()
	want := state.New(uint32(place))
	if ceiling > 0 {
		want.Apply(reserve(ceiling))
	}
	if got := State(place, s); got.Image() != want.Image() {
		t.Errorf("%s: the ceiling is %d, want %d; the image is %x, want %x", what, got.Ceiling(), ceiling, got.Image(), want.Image())
	}
}

func TestStateOfWhatIsSynced(t *testing.T) {
	five, six := logged(t, reserve(5)), logged(t, reserve(6))
	wantState(t, "no bytes", 0, shown("", ""), 0)
	wantState(t, "no bytes, of another one", 3, shown("", ""), 0)
	wantState(t, "slot 0", 0, shown(five, ""), 5)
	wantState(t, "slot 1", 1, shown("", five), 5)
	wantState(t, "both of one generation", 1, shown(five, six), 5)
	wantState(t, "a torn end", 0, shown(five+six[:9], ""), 5)
	wantState(t, "all records", 0, shown(logged(t, reserve(5), reserve(9)), ""), 9)

	unsynced := shown(five, "")
	unsynced.Written = [api.Slots]string{logged(t, reserve(5), reserve(9)), begun(t, "x")}
	unsynced.Ceiling = 9
	wantState(t, "what is not synced doesn't count", 0, unsynced, 5)
}

func TestStateOfALaterGeneration(t *testing.T) {
	image := state.New(1)
	image.Apply(reserve(8))
	later := begun(t, image.Image())
	wantState(t, "slot 1", 1, shown(logged(t, reserve(5)), later), 8)
	wantState(t, "slot 0", 1, shown(later, logged(t, reserve(5))), 8)
	wantState(t, "of another one", 2, shown(later, logged(t, reserve(5))), 0)
}

func TestStateOfWhatCannotBe(t *testing.T) {
	wantState(t, "records that cannot follow", 2, shown(logged(t, reserve(5), reserve(5)), ""), 0)
	wantState(t, "no image", 1, shown(logged(t, reserve(5)), begun(t, "x")), 0)
	wantState(t, "no log", 1, shown("x", "y"), 0)
}
