package inspect

import (
	"math"
	"strconv"

	"tidemark/api"
	"tidemark/stamp"
	"tidemark/state"
	"tidemark/wal"
	"tidemark/wire"
)

// Dump tells what is on a disk, from the bytes of its two slots, line by line (P24.3).
func Dump(a, b string) []string {
	slot, records := wal.Pick(a, b)
	if slot < 0 {
		return []string{"slot none", counted("other", len(a)+len(b))}
	}
	slots := [api.Slots]string{a, b}
	generation, _, good := wal.Scan(slots[slot])
	lines := []string{counted("slot", slot), "generation " + decimal(generation)}
	for _, r := range records {
		lines = append(lines, lineOf(r))
	}
	lines = append(lines, counted("torn", len(slots[slot])-good), counted("other", len(slots[1-slot])))
	return append(lines, summary(records)...)
}

// summary tells, in lines, what the records make.
func summary(records []api.Record) []string {
	kept, e := state.Replay(nodeOf(records), records)
	if e != api.OK {
		return []string{"broken"}
	}
	return []string{
		"ceiling " + decimal(kept.Ceiling()),
		"watermark " + stamp.Text(kept.Watermark()),
		counted("held", len(kept.Held())),
		counted("entries", len(kept.Entries())),
		counted("versions", len(kept.Versions())),
	}
}

// nodeOf tells whose disk the records are of, as far as they say it: an image alone does.
func nodeOf(records []api.Record) uint32 {
	if len(records) == 0 || records[0].Kind != api.RecImage {
		return 0
	}
	return uint32(wire.Open(records[0].Image).Var(math.MaxUint32)) // 0, if the image begins with no such number
}

func counted(name string, n int) string { return name + " " + strconv.Itoa(n) }
