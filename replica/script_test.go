package replica

import (
	"strconv"

	"tidemark/stamp"
)

// config draws a configuration with three clients, and tells its shards.
func (d dice) config() (string, int) {
	shards := 1 + d.Intn(3)
	text := "shards " + strconv.Itoa(shards) + "\nclients 3\ncapacity " + d.pick("1048576", "1048576", strconv.Itoa(300+d.Intn(1500))) + "\npark " + d.below(5) + "\nwindow " + d.pick("0", "3", "10", "100")
	for _, split := range []string{"b", "m"}[:shards-1] {
		text += "\nsplit " + split
	}
	return text, shards
}

// line draws a line for a cluster with so many shards and three clients.
func (d dice) line(shards int) string {
	client, shard := " "+strconv.Itoa(shards+d.Intn(3)), " "+d.below(shards)
	key := " " + d.pick("a", "b", "m", "z")
	switch d.Intn(24) {
	case 0, 1:
		return "begin" + client + " " + d.pick("rw", "rw", "rw", "ro", "at") + " " + d.pick("%", "@"+strconv.Itoa(shards), "@"+strconv.Itoa(shards+1))
	case 2:
		return "get" + client + key
	case 3:
		return d.pick("scan", "rscan") + client + " % " + d.pick("%", "m", "z") + " 0"
	case 4, 5, 6:
		return "put" + client + key + " " + d.pick("%", d.below(100))
	case 7:
		return "del" + client + key
	case 8, 9, 10:
		return "commit" + client
	case 11:
		return d.pick("abort", "kill", "tick", "tick") + client
	case 12:
		return d.pick("tick", "tick", "save") + shard
	case 13:
		return "wall " + d.below(shards+3) + " " + d.below(40)
	case 14:
		return d.pick("drop 0", "copy 0", "round 1", "mark"+shard+" "+stamp.Text(at(uint64(d.Intn(8)), 0, 0)))
	case 15:
		return "crash" + shard + " " + d.keep() + " " + d.keep()
	case 16, 17:
		return "sync" + shard
	case 18, 19, 20, 21:
		return "take " + d.below(3)
	}
	return "calm " + d.below(3)
}

func (d dice) keep() string { return d.pick("0", d.below(200), "9223372036854775807") }

// bout draws the lines of a transaction that is asked without a stop, over all shards.
func (d dice) bout(shards int) []string {
	client := " " + strconv.Itoa(shards+d.Intn(3))
	list := []string{"kill" + client, "begin" + client + " rw %", "scan" + client + " % % 0", "calm 0", "calm 0"}
	for _, key := range []string{"a", "b", "m", "z"} {
		switch d.Intn(5) {
		case 0, 1:
			list = append(list, "put"+client+" "+key+" "+d.below(100))
		case 2:
			list = append(list, "del"+client+" "+key)
		}
	}
	return append(list, "commit"+client)
}

// onward draws the lines of a scan that brings the clocks of all shards on.
func (d dice) onward(shards int) []string {
	client := " " + strconv.Itoa(shards+d.Intn(3))
	return []string{"kill" + client, "wall" + client + " " + d.below(60), "begin" + client + " ro %", "scan" + client + " % % 0", "calm 0", "calm 0"}
}

// lost draws a transaction whose Prepare is aborted ahead of the sync, on a shard whose clock goes on: a crash may keep the Prepare alone.
func (d dice) lost(shards int) []string {
	first, second := strconv.Itoa(shards+d.Intn(2)), strconv.Itoa(shards+2)
	key, home := "a", "0"
	if d.Intn(2) == 0 {
		key, home = "z", strconv.Itoa(shards-1)
	}
	list := []string{"calm 0", "calm 0", "kill " + first, "kill " + second,
		"begin " + first + " rw %", "put " + first + " " + key + " y", "commit " + first, "take 0",
		"wall " + second + " " + d.below(60), "begin " + second + " ro %", "scan " + second + " % % 0"}
	for range shards {
		list = append(list, "take 0")
	}
	list = append(list, "tick "+home)
	if d.Intn(2) == 0 {
		list = append(list, "crash "+home+" "+d.pick("35", "36", "37", "38", "60")+" 0", "tick "+first, "calm 0", "calm 0", "calm 0", "calm 0")
	}
	return list
}

func (d dice) script(lines, shards int) []string {
	var list []string
	for len(list) < lines {
		switch d.Intn(20) {
		case 0, 1:
			list = append(list, d.bout(shards)...)
		case 2, 3:
			list = append(list, d.onward(shards)...)
		case 4:
			list = append(list, d.lost(shards)...)
		}
		list = append(list, d.line(shards))
	}
	return list
}
