package feed

import (
	"tidemark/api"
	"tidemark/durable"
	"tidemark/stamp"
	"tidemark/wal"
)

// Bound tells a stamp below which no commit can come any more (P19.1).
func Bound(r api.Result) api.Stamp {
	var bounds []api.Stamp
	for place, s := range r.Shards {
		bounds = append(bounds, boundOf(place, s))
	}
	return least(bounds...)
}

// boundOf tells the least stamp that one shard may still have a part in: by its clock, by what it holds, and by what it would come back with behind a crash, whatever that keeps.
func boundOf(place int, s api.Shown) api.Stamp {
	safe := durable.State(place, s)
	bounds := []api.Stamp{s.Last, {Wall: safe.Ceiling()}}
	for _, h := range s.Held {
		bounds = append(bounds, h.At)
	}
	for _, h := range safe.Held() {
		bounds = append(bounds, h.At)
	}
	for slot := range api.Slots {
		bounds = append(bounds, unsynced(s.Disk[slot], s.Written[slot])...)
	}
	return least(bounds...)
}

// unsynced gives the stamps of the Prepares that are written to a slot and not synced. That one is decided already doesn't count: a crash may keep the Prepare without the decision.
func unsynced(synced, written string) []api.Stamp {
	_, kept, _ := wal.Scan(synced)
	_, all, _ := wal.Scan(written)
	var list []api.Stamp
	for place, r := range all {
		if place >= len(kept) && r.Kind == api.RecPrepare {
			list = append(list, r.At)
		}
	}
	return list
}

// least gives the least of any number of stamps, of none the zero stamp.
func least(list ...api.Stamp) api.Stamp {
	var low api.Stamp
	for place, s := range list {
		if place == 0 || stamp.Less(s, low) {
			low = s
		}
	}
	return low
}
