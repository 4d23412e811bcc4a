package gate

import (
	"math"
	"math/rand"
	"strconv"
	"strings"
	"testing"

	"tidemark/api"
)

func at(wall uint64, logical, node uint32) api.Stamp {
	return api.Stamp{Wall: wall, Logical: logical, Node: node}
}

// pairs makes pairs of texts like a=1.
func pairs(texts ...string) []api.Pair {
	var list []api.Pair
	for _, text := range texts {
		key, value, _ := strings.Cut(text, "=")
		list = append(list, api.Pair{Key: key, Value: value})
	}
	return list
}

// of is an answer OK to an operation of a kind.
func of(kind api.OpKind) api.Answer { return api.Answer{Op: api.Op{Kind: kind}} }

func found(kind api.OpKind, texts ...string) api.Answer {
	a := of(kind)
	a.Pairs = pairs(texts...)
	return a
}

func wantReply(t *testing.T, a api.Answer, want string) {
	t.Helper()
	if got := Reply(a); got != want {
		t.Errorf("Reply(%+v) = %q, want %q", a, got, want)
	}
}

// P21.3: the replies of the kinds.
func TestReplies(t *testing.T) {
	begun := of(api.OpBegin)
	wantReply(t, begun, "begun 0 0 0.0.0")
	begun.Txn, begun.At = api.Txn{Client: 2, Seq: 1}, at(0, 1, 2)
	wantReply(t, begun, "begun 2 1 0.1.2")
	begun.Txn, begun.At = api.Txn{Client: math.MaxUint32, Seq: math.MaxUint32 - 1}, at(math.MaxUint64, math.MaxUint32, math.MaxUint32-2)
	wantReply(t, begun, "begun 4294967295 4294967294 18446744073709551615.4294967295.4294967293")

	wantReply(t, found(api.OpGet, "k=x y"), "value x%20y")
	wantReply(t, found(api.OpGet, "k="), "value %")
	wantReply(t, found(api.OpGet), "none")
	wantReply(t, found(api.OpGet, "k=1", "l=2"), "value 1")
	wantReply(t, api.Answer{Op: api.Op{Kind: api.OpGet}, Pairs: []api.Pair{}}, "none")

	wantReply(t, found(api.OpScan, "a=1", "b="), "pairs 2 a 1 b %")
	wantReply(t, found(api.OpScan, "b=2", "a=1"), "pairs 2 b 2 a 1")
	wantReply(t, found(api.OpScan), "pairs 0")
	wantReply(t, found(api.OpScan, "=", "\n=\x00"), "pairs 2 % % %0a %00")

	committed := of(api.OpCommit)
	wantReply(t, committed, "committed 0.0.0 %")
	committed.At, committed.Token, committed.Txn = at(3, 0, 1), "t\n", api.Txn{Client: 2, Seq: 1}
	wantReply(t, committed, "committed 3.0.1 t%0a")
}

// P21.3: a long list of pairs is told whole.
func TestReplyOfManyPairs(t *testing.T) {
	for _, n := range []int{9, 10, 512, 1000} {
		a, want := of(api.OpScan), "pairs "+strconv.Itoa(n)
		for i := range n {
			a.Pairs = append(a.Pairs, api.Pair{Key: strconv.Itoa(i), Value: " "})
			want += " " + strconv.Itoa(i) + " %20"
		}
		wantReply(t, a, want)
	}
}

// P21.3: any other kind is ok, whatever the answer holds.
func TestReplyOfOtherKinds(t *testing.T) {
	for _, kind := range []api.OpKind{api.OpPut, api.OpDelete, api.OpAbort, 0, 8, 9, -1, math.MaxInt, math.MinInt} {
		wantReply(t, of(kind), "ok")
		a := found(kind, "a=1")
		a.At, a.Token, a.Txn = at(1, 2, 3), "t", api.Txn{Client: 2, Seq: 1}
		wantReply(t, a, "ok")
	}
}

// P21.3: the names of the statuses, by their numbers in DOC.md; of every other one the number, whatever the kind.
func TestRepliesOfErrors(t *testing.T) {
	names := map[int]string{1: "arg", 11: "exhausted", 40: "token", 60: "full", 90: "old", 100: "conflict", 140: "busy", 141: "stale", 142: "many", 160: "open", 161: "none", 162: "wait", 163: "readonly", 164: "aborted", 210: "request"}
	statuses := []int{math.MinInt, math.MinInt32, math.MaxInt32, math.MaxInt, 1 << 32, 1<<32 + 1}
	for n := -1000; n <= 1000; n++ {
		statuses = append(statuses, n)
	}
	for _, n := range statuses {
		if n == 0 {
			continue
		}
		want := names[n]
		if want == "" {
			want = strconv.Itoa(n)
		}
		for kind := range api.OpKind(9) {
			a := found(kind, "a=1")
			a.Status, a.At, a.Token = api.Errno(n), at(1, 0, 0), "t"
			wantReply(t, a, "error "+want)
		}
	}
}

// P21.3: whatever the answer holds, the reply is one line.
func TestRepliesAreLines(t *testing.T) {
	r := rand.New(rand.NewSource(3))
	text := func() string {
		b := make([]byte, r.Intn(12))
		r.Read(b)
		return string(b)
	}
	for range 20000 {
		a := api.Answer{Client: r.Uint32(), Txn: api.Txn{Client: r.Uint32(), Seq: r.Uint32()}, At: at(r.Uint64(), r.Uint32(), r.Uint32()), Token: text()}
		a.Op = api.Op{Kind: api.OpKind(r.Intn(9)), Key: text(), Hi: text(), Value: text(), Token: text(), Limit: r.Int()}
		if r.Intn(4) == 0 {
			a.Status = api.Errno(r.Intn(400) - 100)
		}
		for range r.Intn(5) {
			a.Pairs = append(a.Pairs, api.Pair{Key: text(), Value: text()})
		}
		reply := Reply(a)
		if reply == "" || strings.ContainsFunc(reply, func(c rune) bool { return c < 0x20 || c > 0x7e }) || strings.Contains(reply, "  ") || strings.HasSuffix(reply, " ") {
			t.Fatalf("Reply(%+v) = %q", a, reply)
		}
	}
	all := make([]byte, 256)
	for i := range all {
		all[i] = byte(i)
	}
	a := found(api.OpScan, "k=")
	a.Pairs[0].Value = string(all)
	if words := strings.Split(Reply(a), " "); len(words) != 4 || plainText(words[3]) != string(all) {
		t.Errorf("all bytes are told as %q", words)
	}
}
