package cluster

import (
	"cmp"
	"slices"
	"strconv"
	"strings"
	"testing"

	"tidemark/api"
	"tidemark/disk"
	"tidemark/msg"
	"tidemark/route"
	"tidemark/session"
	"tidemark/shard"
	"tidemark/stamp"
	"tidemark/state"
	"tidemark/wal"
)

// mirror does by hand, with the parts alone, what a line that is of a form says.
type mirror struct {
	t        *testing.T
	config   api.Config
	disks    []*disk.Disk
	shards   []*shard.Shard
	sessions []*session.Session
	asked    []int // by session: the line at which the operation was asked that waits
	air      []string
	events   []api.Event
	line     int
	steps    int
}

func newMirror(t *testing.T, text string) *mirror {
	config, e := route.Parse(text)
	if e != api.OK {
		t.Fatal(e)
	}
	m := &mirror{t: t, config: config, shards: make([]*shard.Shard, config.Shards), asked: make([]int, config.Clients)}
	for n := range config.Shards {
		m.disks = append(m.disks, disk.New(config.Capacity))
		m.open(n)
	}
	for n := range config.Clients {
		m.sessions = append(m.sessions, session.New(uint32(config.Shards+n), config))
	}
	return m
}

func (m *mirror) open(n int) {
	up, e := shard.Open(uint32(n), m.config, m.disks[n])
	if e != api.OK {
		m.t.Fatalf("shard %d cannot be opened: %d", n, e)
	}
	m.shards[n] = up
}

func (m *mirror) send(list []api.Msg) {
	for _, one := range list {
		bytes, e := msg.Encode(one)
		if e != api.OK {
			m.t.Fatalf("%+v cannot be sent", one)
		}
		m.air = append(m.air, bytes)
	}
}

func (m *mirror) deliver(bytes string) {
	one, e := msg.Decode(bytes)
	if e != api.OK {
		m.t.Fatalf("%q is in flight", bytes)
	}
	to := int(one.To)
	if to < len(m.shards) {
		m.send(m.shards[to].Deliver(one))
		return
	}
	out, answers := m.sessions[to-len(m.shards)].Deliver(one)
	m.send(out)
	for _, a := range answers {
		m.events = append(m.events, api.Event{Asked: m.asked[to-len(m.shards)], Answered: m.line, Answer: a})
	}
}

func (m *mirror) tick(n int) {
	if n < len(m.shards) {
		m.send(m.shards[n].Tick())
	} else {
		m.send(m.sessions[n-len(m.shards)].Tick())
	}
}

func (m *mirror) calm(turn int) {
	all := m.air
	m.air = nil
	for i := range all {
		m.deliver(all[(turn%len(all)+i)%len(all)])
	}
	for _, s := range m.shards {
		m.send(s.Sync())
	}
}

// step plays a line: of one of the forms, of nodes that are there.
func (m *mirror) step(line string) api.Errno {
	m.line++
	e := m.do(strings.Split(line, " "))
	if e == api.OK {
		m.steps++
	}
	return e
}

func (m *mirror) do(f []string) api.Errno {
	number := func(i int) int {
		n, err := strconv.Atoi(f[i])
		if err != nil {
			m.t.Fatalf("%q: %v", f, err)
		}
		return n
	}
	switch f[0] {
	case "wall":
		if n := number(1); n < len(m.shards) {
			m.shards[n].Clock(uint64(number(2)))
		} else {
			m.sessions[n-len(m.shards)].Clock(uint64(number(2)))
		}
	case "take", "drop", "copy":
		i := number(1)
		if i >= len(m.air) {
			return api.ErrLine
		}
		bytes := m.air[i]
		if f[0] == "copy" {
			m.air = append(m.air, bytes)
			break
		}
		m.air = slices.Concat(m.air[:i], m.air[i+1:])
		if f[0] == "take" {
			m.deliver(bytes)
		}
	case "sync":
		m.send(m.shards[number(1)].Sync())
	case "tick":
		m.tick(number(1))
	case "crash":
		m.disks[number(1)].Crash(number(2), number(3))
		m.open(number(1))
	case "mark":
		w, _ := stamp.Parse(f[2])
		return m.shards[number(1)].Mark(w)
	case "save":
		return m.shards[number(1)].Checkpoint()
	case "kill":
		m.sessions[number(1)-len(m.shards)].Kill()
	case "calm":
		m.calm(number(1))
	case "round":
		m.calm(number(1))
		for n := range len(m.shards) + len(m.sessions) {
			m.tick(n)
		}
	default:
		m.ask(number(1)-len(m.shards), f)
	}
	return api.OK
}

func (m *mirror) ask(k int, f []string) {
	text := func(i int) string {
		text, e := route.Unword(f[i])
		if e != api.OK {
			m.t.Fatalf("%q is no word", f[i])
		}
		return text
	}
	var op api.Op
	switch f[0] {
	case "begin":
		op = api.Op{Kind: api.OpBegin, ReadOnly: f[2] != "rw", AsOf: f[2] == "at"}
		if f[3][0] == '@' {
			n, _ := strconv.Atoi(f[3][1:])
			op.Token = m.sessions[n-len(m.shards)].Token()
		} else {
			op.Token = text(3)
		}
	case "get":
		op = api.Op{Kind: api.OpGet, Key: text(2)}
	case "scan", "rscan":
		limit, _ := strconv.Atoi(f[4])
		op = api.Op{Kind: api.OpScan, Key: text(2), Hi: text(3), Limit: limit, Back: f[0] == "rscan"}
	case "put":
		op = api.Op{Kind: api.OpPut, Key: text(2), Value: text(3)}
	case "del":
		op = api.Op{Kind: api.OpDelete, Key: text(2)}
	case "commit":
		op = api.Op{Kind: api.OpCommit}
	case "abort":
		op = api.Op{Kind: api.OpAbort}
	default:
		m.t.Fatalf("%q is no command", f[0])
	}
	out, answers := m.sessions[k].Do(op)
	m.send(out)
	for _, a := range answers {
		m.events = append(m.events, api.Event{Asked: m.line, Answered: m.line, Answer: a})
	}
	if len(answers) == 0 {
		m.asked[k] = m.line
	}
}

// result is what the parts tell.
func (m *mirror) result() api.Result {
	r := api.Result{Config: m.config, Events: m.events, Flight: len(m.air), Steps: m.steps}
	for i, s := range m.sessions {
		if op, waits := s.Waiting(); waits {
			id, start, _ := s.Open()
			r.Waiting = append(r.Waiting, api.Event{Asked: m.asked[i], Answer: api.Answer{Client: uint32(len(m.shards) + i), Txn: id, Op: op, At: start}})
		}
	}
	for n, s := range m.shards {
		d := m.disks[n]
		shown := api.Shown{Held: s.Held(), Parked: len(s.Parked()), Entries: s.Entries(), Last: s.Last(), Ceiling: s.Ceiling(), Watermark: s.Watermark()}
		for i := range shown.Disk {
			shown.Written[i] = d.Bytes(i)
			shown.Disk[i] = d.Bytes(i)[:d.Synced(i)]
		}
		r.Shards = append(r.Shards, shown)
		_, records := wal.Pick(shown.Disk[0], shown.Disk[1])
		folded, e := state.Replay(uint32(n), records)
		if e != api.OK {
			m.t.Fatalf("shard %d's disk: %d", n, e)
		}
		for _, entry := range folded.Entries() {
			if entry.Outcome == api.Committed && entry.Home == uint32(n) {
				r.Commits = append(r.Commits, entry)
			}
		}
	}
	slices.SortFunc(r.Commits, func(a, b api.Entry) int {
		return cmp.Or(stamp.Compare(a.At, b.At), cmp.Compare(a.Txn.Client, b.Txn.Client), cmp.Compare(a.Txn.Seq, b.Txn.Seq))
	})
	return r
}

// P17.3 to P17.7: drawn scripts do just what their lines say of the parts.
func TestLikeItsParts(t *testing.T) {
	for seed := range int64(150) {
		d := newDice(t, seed, everything, func(c *api.Config) {
			if seed%5 == 0 {
				c.Capacity = 256 + int(seed)*10
			}
		})
		d.foreign = seed%2 == 0
		m := newMirror(t, d.h.config)
		for range 60 + d.Intn(200) {
			d.play(1)
			line := d.h.lines[len(d.h.lines)-1]
			if e := m.step(line); e != d.h.status[len(d.h.lines)-1] {
				d.h.fail("seed %d: the last line is answered %d by the parts", seed, e)
			}
			if !slices.Equal(d.h.c.flight.All(), m.air) {
				d.h.fail("seed %d: other messages are in flight", seed)
			}
			if d.Intn(10) == 0 && !same(d.h.c.Result(), m.result()) {
				d.h.fail("seed %d: %+v, want %+v", seed, d.h.c.Result(), m.result())
			}
		}
		if !same(d.h.c.Result(), m.result()) {
			d.h.fail("seed %d: %+v, want %+v", seed, d.h.c.Result(), m.result())
		}
	}
}
