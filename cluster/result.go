package cluster

import (
	"cmp"
	"slices"

	"tidemark/api"
	"tidemark/stamp"
	"tidemark/state"
	"tidemark/wal"
)

// Result tells all that has come of it so far (P17.7).
func (c *Cluster) Result() api.Result {
	r := api.Result{Status: api.OK, Config: c.config, Flight: c.flight.Len(), Steps: c.steps}
	r.Config.Splits = slices.Clone(c.config.Splits)
	for _, e := range c.events {
		e.Answer.Pairs = slices.Clone(e.Answer.Pairs)
		r.Events = append(r.Events, e)
	}
	for i, k := range c.clients {
		if op, waits := k.Waiting(); waits {
			txn, start, _ := k.Open()
			a := api.Answer{Client: uint32(len(c.shards) + i), Txn: txn, Op: op, At: start}
			r.Waiting = append(r.Waiting, api.Event{Asked: k.asked, Answer: a})
		}
	}
	for _, s := range c.shards {
		r.Commits = append(r.Commits, s.commits()...)
		r.Shards = append(r.Shards, s.shown())
	}
	slices.SortStableFunc(r.Commits, compareCommits)
	return r
}

func compareCommits(a, b api.Entry) int {
	return cmp.Or(
		stamp.Compare(a.At, b.At),
		cmp.Compare(a.Txn.Client, b.Txn.Client),
		cmp.Compare(a.Txn.Seq, b.Txn.Seq))
}

// commits gives the transactions whose commit record is synced here, at their home. What the shard knows beyond its disk does not count.
func (s *server) commits() []api.Entry {
	_, records := wal.Pick(s.synced(0), s.synced(1))
	durable, e := state.Replay(s.number, records)
	if e != api.OK {
		return nil // no shard is up on such records
	}
	return slices.DeleteFunc(durable.Entries(), func(e api.Entry) bool {
		return e.Outcome != api.Committed || e.Home != s.number
	})
}

// synced gives a slot's synced bytes.
func (s *server) synced(slot int) string { return s.disk.Bytes(slot)[:s.disk.Synced(slot)] }

// shown tells what the shard has now.
func (s *server) shown() api.Shown {
	return api.Shown{
		Disk:      [api.Slots]string{s.synced(0), s.synced(1)},
		Written:   [api.Slots]string{s.disk.Bytes(0), s.disk.Bytes(1)},
		Held:      s.Held(),
		Parked:    len(s.Parked()),
		Entries:   s.Entries(),
		Last:      s.Last(),
		Ceiling:   s.Ceiling(),
		Watermark: s.Watermark(),
	}
}
