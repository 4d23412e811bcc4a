package backup

import (
	"math"
	"slices"

	"tidemark/api"
	"tidemark/disk"
	"tidemark/route"
	"tidemark/wal"
)

// restorer is the client in whose name a backup is written: no cluster has one of that number.
const restorer = math.MaxUint32

// Restore makes the disks of a new cluster from a backup's text: the bytes of each shard's slot 0 (P20.5).
func Restore(c api.Config, text string) ([]string, api.Errno) {
	if _, e := route.Text(c); e != api.OK {
		return nil, e
	}
	at, pairs, e := Read(text)
	if e != api.OK {
		return nil, e
	}
	var disks []string
	for shard, writes := range parts(c, pairs) {
		bytes, e := logOf(c.Capacity, records(uint32(shard), at, writes))
		if e != api.OK {
			return nil, e
		}
		disks = append(disks, bytes)
	}
	return disks, api.OK
}

// parts gives what each shard has of the pairs, as puts, shard by shard.
func parts(c api.Config, pairs []api.Pair) [][]api.Write {
	var puts []api.Write
	for _, p := range pairs {
		puts = append(puts, api.Write{Key: p.Key, Value: p.Value})
	}
	list := make([][]api.Write, c.Shards)
	for _, share := range route.Shares(c, nil, puts) {
		list[share.Shard] = share.Writes
	}
	return list
}

// records gives those of a shard's log. All are prepared ahead of the first decision: none may prepare at a stamp at which another one stands committed.
func records(shard uint32, at api.Stamp, writes []api.Write) []api.Record {
	list := []api.Record{{Kind: api.RecReserve, Wall: at.Wall + 1}} // a usable stamp has a wall above its own
	var decisions []api.Record
	for group := range slices.Chunk(writes, api.MaxWrites) {
		txn := api.Txn{Client: restorer, Seq: uint32(len(decisions) + 1)}
		list = append(list, api.Record{Kind: api.RecPrepare, Txn: txn, Home: shard, At: at, Writes: group})
		decisions = append(decisions, api.Record{Kind: api.RecDecide, Txn: txn, Home: shard, Outcome: api.Committed, At: at})
	}
	return append(list, decisions...)
}

// logOf gives the bytes of a new log with these records, if a disk of that capacity holds them.
func logOf(capacity int, records []api.Record) (string, api.Errno) {
	d := disk.New(capacity)
	log, _, e := wal.Open(d)
	if e != api.OK {
		return "", e
	}
	for _, r := range records {
		if e := log.Append(r); e != api.OK {
			return "", e
		}
	}
	return d.Bytes(0), api.OK
}
