package session

import (
	"slices"
	"testing"

	"tidemark/api"
	"tidemark/disk"
	"tidemark/flight"
	"tidemark/msg"
	"tidemark/shard"
	"tidemark/token"
)

// net is two shards, and the sessions 2 and 3, with the messages between them.
type net struct {
	t        *testing.T
	disks    [2]*disk.Disk
	shards   [2]*shard.Shard
	sessions map[uint32]*Session
	flight   *flight.Flight
	answers  []api.Answer
}

func newNet(t *testing.T) *net {
	n := &net{t: t, flight: flight.New(), sessions: map[uint32]*Session{2: New(2, config()), 3: New(3, config())}}
	for i := range n.shards {
		n.disks[i] = disk.New(config().Capacity)
		n.open(i)
	}
	return n
}

func (n *net) open(i int) {
	up, e := shard.Open(uint32(i), config(), n.disks[i])
	if e != api.OK {
		n.t.Fatalf("shard %d: %v", i, e)
	}
	n.shards[i] = up
}

func (n *net) send(list []api.Msg) {
	for _, m := range list {
		bytes, e := msg.Encode(m)
		if e != api.OK {
			n.t.Fatalf("%+v: %v", m, e)
		}
		n.flight.Send(bytes)
	}
}

func (n *net) do(node uint32, ops ...api.Op) {
	for _, op := range ops {
		out, answers := n.sessions[node].Do(op)
		n.send(out)
		n.answers = append(n.answers, answers...)
	}
}

// calm delivers all that is in flight, and then syncs all shards, so often.
func (n *net) calm(times int) {
	for range times {
		for _, bytes := range n.flight.Drain(0) {
			m, e := msg.Decode(bytes)
			if e != api.OK {
				n.t.Fatalf("%v is in flight", e)
			}
			if m.To < 2 {
				n.send(n.shards[m.To].Deliver(m))
				continue
			}
			out, answers := n.sessions[m.To].Deliver(m)
			n.send(out)
			n.answers = append(n.answers, answers...)
		}
		for _, s := range n.shards {
			n.send(s.Sync())
		}
	}
}

// wantAnswer holds the last answer of an operation to what it should be, but for Client and Op.
func (n *net) wantAnswer(op api.Op, node uint32, want api.Answer) {
	n.t.Helper()
	want.Client, want.Op = node, op
	for _, a := range slices.Backward(n.answers) {
		if a.Client == node && a.Op == op {
			if !sameAnswer(a, want) {
				n.t.Errorf("%+v, want %+v", a, want)
			}
			return
		}
	}
	n.t.Errorf("%+v of %d is not answered", op, node)
}

func (n *net) wantNoAnswer(op api.Op, node uint32) {
	n.t.Helper()
	for _, a := range n.answers {
		if a.Client == node && a.Op == op {
			n.t.Errorf("%+v is answered", a)
		}
	}
}

// asking has client 2's commit of a = 1 on its way.
func asking(t *testing.T) *net {
	n := newNet(t)
	n.do(2, begin, put("a", "1"), commit)
	return n
}

// DOC's examples 1 to 4, 7 and 8: a commit comes through in four calms, and who has its token sees it.
func TestCommitWithShards(t *testing.T) {
	for _, seen := range []bool{true, false} {
		n := asking(t)
		if len(n.answers) != 2 || n.flight.Len() != 1 {
			t.Errorf("%d answers, %d in flight", len(n.answers), n.flight.Len())
		}
		for range 3 {
			n.calm(1)
			n.wantNoAnswer(commit, 2)
		}
		n.calm(1)
		done := token.Encode(at(0, 2, 0))
		n.wantAnswer(commit, 2, api.Answer{Txn: t1, At: at(0, 2, 0), Token: done})
		start, want := at(0, 1, 3), pairs()
		op := readOnly
		if seen {
			op.Token = n.sessions[2].Token()
			start, want = at(0, 3, 3), pairs("a=1")
		}
		n.do(3, op, get("a"))
		n.calm(2)
		n.wantAnswer(get("a"), 3, api.Answer{Txn: api.Txn{Client: 3, Seq: 1}, At: start, Pairs: want})
	}
}

// DOC's example 6: the home has lost patience.
func TestAbortWithShards(t *testing.T) {
	n := asking(t)
	n.calm(2)
	n.disks[0].Crash(0, 0)
	n.open(0)
	n.send(n.shards[0].Tick())
	n.calm(2)
	n.wantAnswer(commit, 2, api.Answer{Txn: t1, Status: api.ErrAborted})
}

// DOC's example 9: a read waits for the outcome of what it meets.
func TestReadWithShards(t *testing.T) {
	n := asking(t)
	n.calm(1)
	n.sessions[3].Clock(5)
	n.do(3, readOnly, get("a"))
	n.calm(1)
	n.wantNoAnswer(get("a"), 3)
	n.calm(2)
	n.wantAnswer(get("a"), 3, api.Answer{Txn: api.Txn{Client: 3, Seq: 1}, At: at(5, 0, 3), Pairs: pairs("a=1")})
}

// DOC's example 10: two that have read what both write.
func TestConflictWithShards(t *testing.T) {
	n := newNet(t)
	for _, node := range []uint32{2, 3} {
		n.do(node, begin, get("a"))
		n.calm(2)
		n.do(node, put("a", "1"))
	}
	n.do(2, commit)
	n.do(3, commit)
	n.calm(5)
	n.wantAnswer(commit, 2, api.Answer{Txn: t1, At: at(0, 2, 0), Token: token.Encode(at(0, 2, 0))})
	n.wantAnswer(commit, 3, api.Answer{Txn: api.Txn{Client: 3, Seq: 1}, Status: api.ErrConflict})
}

// P16.12, P16.18: what is lost on the way comes through when the timer fires.
func TestTickWithShards(t *testing.T) {
	n := newNet(t)
	n.do(2, begin, put("a", "1"), put("z", "2"), scan("", ""))
	lossy := func(op api.Op) {
		for lost := range 9 {
			if _, waits := n.sessions[2].Waiting(); !waits {
				return
			}
			if lost%2 == 0 {
				n.flight.Drain(0)
			}
			n.send(n.sessions[2].Tick())
			n.calm(1)
		}
		t.Errorf("%+v waits still", op)
	}
	lossy(scan("", ""))
	n.wantAnswer(scan("", ""), 2, api.Answer{Txn: t1, At: s1, Pairs: pairs("a=1", "z=2")})
	n.do(2, commit)
	lossy(commit)
	n.calm(1)
	n.wantAnswer(commit, 2, api.Answer{Txn: t1, At: at(0, 2, 1), Token: token.Encode(at(0, 2, 1))})
	for i, s := range n.shards {
		if len(s.Held()) != 0 {
			t.Errorf("shard %d holds %+v", i, s.Held())
		}
	}
	n.do(3, beginWith(at(0, 2, 1)), scan("", ""))
	n.calm(2)
	n.wantAnswer(scan("", ""), 3, api.Answer{Txn: api.Txn{Client: 3, Seq: 1}, At: at(0, 3, 3), Pairs: pairs("a=1", "z=2")})
}
