package gate

import (
	"strings"
	"testing"

	"tidemark/api"
	"tidemark/disk"
	"tidemark/flight"
	"tidemark/msg"
	"tidemark/shard"
)

// net is two shards, and the gates of the clients 2 and 3, with the messages between them.
type net struct {
	t      *testing.T
	shards [2]*shard.Shard
	gates  map[uint32]*Gate
	flight *flight.Flight
	text   map[uint32]string // what each gate has written
}

func newNet(t *testing.T) *net {
	n := &net{t: t, flight: flight.New(), gates: map[uint32]*Gate{2: New(2, config()), 3: New(3, config())}, text: map[uint32]string{}}
	for i := range n.shards {
		up, e := shard.Open(uint32(i), config(), disk.New(config().Capacity))
		if e != api.OK {
			t.Fatalf("shard %d: %v", i, e)
		}
		n.shards[i] = up
	}
	return n
}

func (n *net) send(list []api.Msg) {
	for _, m := range list {
		bytes, e := msg.Encode(m)
		if e != api.OK {
			n.t.Fatalf("%+v: %v", m, e)
		}
		n.flight.Send(bytes)
	}
}

func (n *net) input(node uint32, chunk string) {
	text, out := n.gates[node].Input(ended(chunk))
	n.text[node] += text
	n.send(out)
}

// calm delivers all that is in flight and syncs the shards, till nothing is in flight.
func (n *net) calm() {
	for n.flight.Len() > 0 {
		for _, bytes := range n.flight.Drain(0) {
			m, e := msg.Decode(bytes)
			if e != api.OK {
				n.t.Fatalf("%v is in flight", e)
			}
			if m.To < 2 {
				n.send(n.shards[m.To].Deliver(m))
				continue
			}
			text, out := n.gates[m.To].Deliver(m)
			n.text[m.To] += text
			n.send(out)
		}
		for _, s := range n.shards {
			n.send(s.Sync())
		}
	}
}

// wantText holds the lines that a gate has written since to patterns, in which * stands for one word.
func (n *net) wantText(node uint32, want string) {
	n.t.Helper()
	got := n.text[node]
	n.text[node] = ""
	lines, wanted := strings.Split(got, "\n"), strings.Split(ended(want), "\n")
	right := len(lines) == len(wanted) && n.gates[node].Pending() == 0
	for i := 0; right && i < len(lines); i++ {
		words, pattern := strings.Split(lines[i], " "), strings.Split(wanted[i], " ")
		right = len(words) == len(pattern)
		for j := 0; right && j < len(words); j++ {
			right = pattern[j] == "*" || words[j] == pattern[j]
		}
	}
	if !right {
		n.t.Errorf("gate %d has written %q, %d pending, want %q", node, got, n.gates[node].Pending(), ended(want))
	}
}

// P21.10, P21.11: whole transactions, all of them sent ahead of the first reply, through shards as they are.
func TestPipelinedTransactions(t *testing.T) {
	n := newNet(t)
	n.input(2, "begin rw %;put a 1;put z x%20y;del b;scan % % 0;commit;begin rw %;get a;put b 2;nonsense;commit;begin ro %;rscan % % 2;get q;commit;")
	n.calm()
	n.wantText(2, "begun 2 1 *;ok;ok;ok;pairs 2 a 1 z x%20y;committed * *;begun 2 2 *;value 1;ok;error request;committed * *;begun 2 3 *;pairs 2 z x%20y b 2;none;committed * *;")
	n.input(2, "begin rw %;get a;put a 9;commit;")
	n.calm()
	last := strings.Fields(n.text[2])
	n.wantText(2, "begun 2 4 *;value 1;ok;committed * *;")
	n.input(3, "begin at "+last[len(last)-1]+";scan % b 0;commit;begin rw "+last[len(last)-1]+";get a;put a 3;commit;abort;")
	n.calm()
	n.wantText(3, "begun 3 1 *;pairs 1 a 9;committed * *;begun 3 2 *;value 9;ok;committed * *;error none;")
}

// P21.10, P21.11: two gates that meet: one commits, the other one is told of the conflict, and both go on.
func TestGatesThatMeet(t *testing.T) {
	n := newNet(t)
	for _, node := range []uint32{2, 3} {
		n.input(node, "begin rw %;get a;put a 1;commit;begin ro %;get a;abort;")
	}
	n.calm()
	if got := n.text[2] + n.text[3]; strings.Count(got, "committed") != 1 || strings.Count(got, "error conflict") != 1 || strings.Count(got, "\n") != 14 {
		t.Errorf("the gates have written %q", got)
	}
}
