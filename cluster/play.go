package cluster

import (
	"strings"

	"tidemark/api"
)

// play does a line, unless it is none or cannot be done now.
func (c *Cluster) play(line string) api.Errno {
	if len(line) > api.MaxLine {
		return api.ErrLine
	}
	f := &fields{cluster: c, left: strings.Split(line, " ")}
	e := c.do(f.next(), f)
	if f.wrong {
		return api.ErrLine
	}
	return e
}

// do does what a command's name and its fields say, once all fields are read and right.
func (c *Cluster) do(name string, f *fields) api.Errno {
	switch name {
	case "wall":
		if n, wall := f.node(), f.number(64); f.end() {
			n.Clock(wall)
		}
	case "tick":
		if n := f.node(); f.end() {
			c.send(n.Tick())
		}
	case "take", "drop", "copy":
		c.handle(name, f)
	case "sync":
		if s := f.shard(); f.end() {
			c.send(s.Sync())
		}
	case "crash":
		if s, keep0, keep1 := f.shard(), f.count(), f.count(); f.end() {
			s.crash(keep0, keep1)
		}
	case "mark":
		if s, mark := f.shard(), f.stamp(); f.end() {
			return s.Mark(mark)
		}
	case "save":
		if s := f.shard(); f.end() {
			return s.Checkpoint()
		}
	case "kill":
		if k := f.client(); f.end() {
			k.Kill()
		}
	case "calm":
		if turn := f.count(); f.end() {
			c.calm(turn)
		}
	case "round":
		if turn := f.count(); f.end() {
			c.round(turn)
		}
	case "halt":
		if f.end() {
			c.Cancel()
		}
	default:
		if k, op := f.client(), f.op(name); f.end() {
			c.hear(k.ask(op, c.played))
		}
	}
	return api.OK
}

// handle does what a line says about one message in flight.
func (c *Cluster) handle(name string, f *fields) {
	i := f.place()
	if !f.end() {
		return
	}
	switch name {
	case "take":
		bytes, _ := c.flight.Take(i) // the place is right
		c.deliver(bytes)
	case "drop":
		c.flight.Drop(i)
	case "copy":
		c.flight.Copy(i)
	}
}

// calm delivers all that is in flight, and syncs all shards.
func (c *Cluster) calm(turn int) {
	for _, bytes := range c.flight.Drain(turn) {
		c.deliver(bytes)
	}
	for _, s := range c.shards {
		c.send(s.Sync())
	}
}

// round is a calm behind which every timer fires.
func (c *Cluster) round(turn int) {
	c.calm(turn)
	for _, n := range c.nodes {
		c.send(n.Tick())
	}
}
