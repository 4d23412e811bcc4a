package cluster

import (
	"math/rand"
	"strconv"
	"strings"
	"testing"

	"tidemark/api"
	"tidemark/route"
	"tidemark/stamp"
	"tidemark/token"
)

// far is the reading up to which DOC.md says that no clock comes near its end.
const far = 1000000000000

// share is how often a command is drawn.
type share struct {
	name   string
	weight int
}

// everything is all commands but halt.
var everything = []share{
	{"begin", 12}, {"get", 8}, {"scan", 4}, {"rscan", 2}, {"put", 12}, {"del", 3}, {"commit", 12}, {"abort", 1},
	{"take", 30}, {"drop", 2}, {"copy", 2}, {"sync", 8}, {"tick", 3}, {"crash", 2}, {"mark", 1}, {"save", 1},
	{"kill", 1}, {"calm", 8}, {"round", 1}, {"wall", 4},
}

func without(list []share, names ...string) []share {
	var left []share
next:
	for _, s := range list {
		for _, name := range names {
			if s.name == name {
				continue next
			}
		}
		left = append(left, s)
	}
	return left
}

// history is a run: the lines that were played, what they were answered, what was told on the way.
type history struct {
	t      *testing.T
	c      *Cluster
	config string
	lines  []string
	status []api.Errno
	ahead  []api.Result // ahead of each line: of a begin and a kill always, of others if every is true
	every  bool
}

func newHistory(t *testing.T, config string) *history {
	t.Helper()
	c, e := Start(config)
	if e != api.OK {
		t.Fatalf("Start(%q): %d", config, e)
	}
	return &history{t: t, c: c, config: config}
}

func (h *history) step(lines ...string) {
	for _, line := range lines {
		var ahead api.Result
		if h.every || strings.HasPrefix(line, "begin ") || strings.HasPrefix(line, "kill ") {
			ahead = h.c.Result()
		}
		h.ahead = append(h.ahead, ahead)
		h.lines = append(h.lines, line)
		h.status = append(h.status, h.c.Step(line))
	}
}

// fail tells a fault with the script that shows it.
func (h *history) fail(format string, args ...any) {
	h.t.Helper()
	h.t.Logf("config %q", h.config)
	for i, line := range h.lines {
		h.t.Logf("%3d %s (%d)", i+1, line, h.status[i])
	}
	h.t.Fatalf(format, args...)
}

// dice draws the lines of a script, in the light of what is there.
type dice struct {
	*rand.Rand
	h       *history
	mix     []share
	keys    []string
	now     uint64 // readings, marks and foreign tokens are drawn near it
	foreign bool   // whether a begin may present what is no session's token
}

// newDice begins a history with a drawn configuration; limit may change that.
func newDice(t *testing.T, seed int64, mix []share, limit func(*api.Config)) *dice {
	t.Helper()
	r := rand.New(rand.NewSource(seed))
	splits := [][]string{{}, {"m"}, {"c", "m"}, {"b", "c", "m"}, {"b", "c", "m", "z"}, {"b", "c", "m", "z", "zz"}}[min(r.Intn(9), r.Intn(6))]
	config := api.Config{
		Shards:   len(splits) + 1,
		Clients:  1 + r.Intn(4),
		Splits:   splits,
		Capacity: api.MaxCapacity,
		Park:     r.Intn(4),
		Window:   []uint64{0, 3, 10, 100}[r.Intn(4)],
	}
	if r.Intn(20) == 0 {
		config.Clients = 6
	}
	if limit != nil {
		limit(&config)
	}
	text, e := route.Text(config)
	if e != api.OK {
		t.Fatalf("%+v: %d", config, e)
	}
	return &dice{Rand: r, h: newHistory(t, text), mix: mix, keys: []string{"a", "b", "bb", "m", "z", "zz"}[:2+r.Intn(5)], now: 4}
}

// play draws and plays so many lines.
func (d *dice) play(lines int) {
	for range lines {
		d.h.step(d.line())
	}
}

// pick draws one of the texts.
func (d *dice) pick(list ...string) string { return list[d.Intn(len(list))] }

func (d *dice) below(n int) string { return strconv.Itoa(d.Intn(n)) }

func (d *dice) line() string {
	for {
		name := d.command()
		client := d.Intn(len(d.h.c.clients))
		if d.apt(name, d.h.c.clients[client]) || d.Intn(40) == 0 {
			return d.fill(name, strconv.Itoa(len(d.h.c.shards)+client))
		}
	}
}

func (d *dice) command() string {
	sum := 0
	for _, s := range d.mix {
		sum += s.weight
	}
	n := d.Intn(sum)
	for _, s := range d.mix {
		if n < s.weight {
			return s.name
		}
		n -= s.weight
	}
	return ""
}

// apt tells whether a command has something to do now.
func (d *dice) apt(name string, k *client) bool {
	_, waits := k.Waiting()
	_, _, open := k.Open()
	switch name {
	case "begin":
		return !waits && !open
	case "get", "scan", "rscan", "put", "del", "commit", "abort":
		return !waits && open
	case "take", "drop", "copy":
		return d.h.c.flight.Len() > 0
	}
	return true
}

// fill gives a line with that name; one of a client's is that client's.
func (d *dice) fill(name, client string) string {
	shard := d.below(len(d.h.c.shards))
	key := d.pick(d.keys...)
	switch name {
	case "begin":
		return "begin " + client + " " + d.mode() + " " + d.token()
	case "get", "del":
		return name + " " + client + " " + key
	case "scan", "rscan":
		return name + " " + client + " " + d.pick("%", "%", "a", "b", "n") + " " + d.pick("%", "%", "bz", "m", "z") + " " + d.pick("0", "0", "1", "2", "9")
	case "put":
		return "put " + client + " " + key + " " + strconv.Itoa(len(d.h.lines)+1) // no value comes twice
	case "commit", "abort", "kill":
		return name + " " + client
	case "take", "drop", "copy":
		return name + " " + d.below(max(d.h.c.flight.Len(), 1))
	case "sync", "save":
		return name + " " + shard
	case "crash":
		return "crash " + shard + " " + d.keep() + " " + d.keep()
	case "mark":
		w := d.stamp()
		if d.Intn(4) > 0 {
			w.Wall /= 2 // else there are few that it makes not old
		}
		return "mark " + shard + " " + stamp.Text(w)
	case "tick":
		return "tick " + d.below(len(d.h.c.nodes))
	case "wall":
		return "wall " + d.below(len(d.h.c.nodes)) + " " + strconv.FormatUint(d.reading(), 10)
	case "calm", "round":
		return name + " " + d.pick("0", "0", "1", "2", "9223372036854775807")
	}
	return name
}

func (d *dice) mode() string { return d.pick("rw", "rw", "rw", "rw", "ro", "at") }

func (d *dice) keep() string { return d.pick("0", "0", d.below(200), "9223372036854775807") }

func (d *dice) token() string {
	if d.foreign && d.Intn(4) == 0 {
		return d.pick("x", "%00", token.Encode(d.stamp()))
	}
	client := strconv.Itoa(len(d.h.c.shards) + d.Intn(len(d.h.c.clients)))
	return d.pick("%", "@"+client)
}

// reading draws a physical reading: they go on slowly, and now and then back.
func (d *dice) reading() uint64 {
	if d.now < far/2 {
		d.now += uint64(d.Intn(4))
	}
	return d.now - min(d.now, uint64(d.Intn(6)))
}

func (d *dice) stamp() api.Stamp {
	return api.Stamp{Wall: d.reading(), Logical: uint32(d.Intn(3)), Node: uint32(d.Intn(4))}
}
