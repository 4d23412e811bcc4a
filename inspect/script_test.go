package inspect

import (
	"strconv"

	"tidemark/stamp"
)

// config draws a configuration with three clients, and tells its shards.
func (d dice) config() (string, int) {
	shards := 1 + d.Intn(4)
	text := "shards " + strconv.Itoa(shards) + "\nclients 3\ncapacity " + d.pick("1048576", "1048576", strconv.Itoa(300+d.Intn(1500))) + "\npark " + d.below(5) + "\nwindow " + d.pick("0", "3", "10", "100")
	for _, split := range []string{"b", "m", "n"}[:shards-1] {
		text += "\nsplit " + split
	}
	return text, shards
}

// line draws a line for a cluster with so many shards and three clients.
func (d dice) line(shards int) string {
	client, shard := " "+strconv.Itoa(shards+d.Intn(3)), " "+d.below(shards)
	key := " " + d.pick("a", "b", "m", "z")
	switch d.Intn(26) {
	case 0, 1:
		return "begin" + client + " " + d.pick("rw", "rw", "rw", "ro", "at") + " " + d.pick("%", "@"+strconv.Itoa(shards), "@"+strconv.Itoa(shards+1))
	case 2:
		return d.pick("get"+client+key, "scan"+client+" % "+d.pick("%", "m", "z")+" 0")
	case 3, 4, 5:
		return "put" + client + key + " " + d.pick("%", d.below(100))
	case 6:
		return "del" + client + key
	case 7, 8, 9:
		return "commit" + client
	case 10:
		return d.pick("abort", "kill", "tick", "tick") + client
	case 11, 12:
		return d.pick("tick", "tick", "save") + shard
	case 13:
		return "wall " + d.below(shards+3) + " " + d.pick(d.below(40), d.below(40), d.below(40), "18446744073709551614", "18446744073709551615")
	case 14:
		return d.pick("drop ", "copy ", "copy ") + d.below(4)
	case 15:
		return d.pick("round 1", "mark"+shard+" "+stamp.Text(at(uint64(d.Intn(8)), 0, 0)))
	case 16:
		return "crash" + shard + " " + d.keep() + " " + d.keep()
	case 17, 18, 19:
		return "sync" + shard
	case 20, 21, 22, 23, 24:
		return "take " + d.below(4)
	}
	return "calm " + d.below(3)
}

func (d dice) keep() string { return d.pick("0", d.below(200), "9223372036854775807") }

// bout draws the lines of a transaction that writes at all shards, and that meets with something ahead of its end.
func (d dice) bout(shards int) []string {
	client := strconv.Itoa(shards + d.Intn(3))
	list := []string{"kill " + client, "begin " + client + " rw " + d.pick("%", "@"+client)}
	for _, key := range []string{"a", "b", "m", "z"} {
		if d.Intn(5) > 0 {
			list = append(list, "put "+client+" "+key+" "+d.below(100))
		}
	}
	list = append(list, "commit "+client)
	for range 1 + d.Intn(3) {
		list = append(list, "calm "+d.below(3))
	}
	for range d.Intn(6) {
		shard := d.below(shards)
		list = append(list, d.pick("take 0", "take 1", "sync "+shard, "sync "+shard, "tick "+shard, "tick "+shard, "drop 0", "crash "+shard+" "+d.keep()+" "+d.keep()))
	}
	return list
}

func (d dice) script(lines, shards int) []string {
	var list []string
	for len(list) < lines {
		if d.Intn(10) == 0 {
			list = append(list, d.bout(shards)...)
		}
		list = append(list, d.line(shards))
	}
	return list
}
