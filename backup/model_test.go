package backup

import (
	"fmt"
	"hash/crc32"
	"math/big"
	"regexp"
	"slices"
	"strconv"
	"strings"

	"tidemark/api"
	"tidemark/feed"
	"tidemark/stamp"
	"tidemark/state"
	"tidemark/wal"
)

// Limits of DOC.md, told apart from api's constants.
const (
	topWall  = 1<<64 - 1
	topSmall = 1<<32 - 1
	maxKey   = 32
	maxValue = 64
	maxPairs = 512
)

// modelWord is a text as a word, byte by byte.
func modelWord(text string) string {
	if text == "" {
		return "%"
	}
	word := ""
	for _, b := range []byte(text) {
		if b > 0x20 && b < 0x7f && b != '%' {
			word += string(rune(b))
		} else {
			word += fmt.Sprintf("%%%02x", b)
		}
	}
	return word
}

// modelBody is the text of P20.1, line by line, without its sum.
func modelBody(at api.Stamp, pairs []api.Pair) string {
	body := fmt.Sprintf("tidemark backup 1\nat %d.%d.%d\npairs %d\n", at.Wall, at.Logical, at.Node, len(pairs))
	for _, p := range pairs {
		body += "put " + modelWord(p.Key) + " " + modelWord(p.Value) + "\n"
	}
	return body
}

// summed is a body and the line with its sum.
func summed(body string) string {
	return body + fmt.Sprintf("sum %08x\n", crc32.ChecksumIEEE([]byte(body)))
}

func modelText(at api.Stamp, pairs []api.Pair) string { return summed(modelBody(at, pairs)) }

const (
	numberForm = `(0|[1-9][0-9]*)`
	wordForm   = `(%|(?:[!-$&-~]|%[01][0-9a-f]|%2[05]|%7f|%[89a-f][0-9a-f])+)`
)

var (
	textForm = regexp.MustCompile(`\Atidemark backup 1\nat ` + numberForm + `\.` + numberForm + `\.` + numberForm + `\npairs ` + numberForm + `\n((?:put ` + wordForm + ` ` + wordForm + `\n)*)sum [0-9a-f]{8}\n\z`)
	escaped  = regexp.MustCompile(`%[0-9a-f]{2}`)
)

// modelUnword is for words alone.
func modelUnword(word string) string {
	if word == "%" {
		return ""
	}
	return escaped.ReplaceAllStringFunc(word, func(s string) string {
		n, _ := strconv.ParseUint(s[1:], 16, 8)
		return string([]byte{byte(n)})
	})
}

func modelNumber(digits string, most uint64) (uint64, bool) {
	n, _ := new(big.Int).SetString(digits, 10)
	if n.Cmp(new(big.Int).SetUint64(most)) > 0 {
		return 0, false
	}
	return n.Uint64(), true
}

// modelRead is what a text says, by its form, and whether it is a backup.
func modelRead(text string) (api.Stamp, []api.Pair, bool) {
	parts := textForm.FindStringSubmatch(text)
	if parts == nil {
		return api.Stamp{}, nil, false
	}
	wall, ok1 := modelNumber(parts[1], topWall-1)
	logical, ok2 := modelNumber(parts[2], topSmall)
	node, ok3 := modelNumber(parts[3], topSmall)
	count, ok4 := modelNumber(parts[4], topSmall)
	lines := strings.SplitAfter(parts[5], "\n")
	lines = lines[:len(lines)-1]
	body := text[:len(text)-len("sum 00000000\n")]
	if !ok1 || !ok2 || !ok3 || !ok4 || count != uint64(len(lines)) || text != summed(body) {
		return api.Stamp{}, nil, false
	}
	var pairs []api.Pair
	for i, line := range lines {
		words := strings.Fields(line)
		p := api.Pair{Key: modelUnword(words[1]), Value: modelUnword(words[2])}
		if p.Key == "" || len(p.Key) > maxKey || len(p.Value) > maxValue || i > 0 && pairs[i-1].Key >= p.Key {
			return api.Stamp{}, nil, false
		}
		pairs = append(pairs, p)
	}
	return api.Stamp{Wall: wall, Logical: uint32(logical), Node: uint32(node)}, pairs, true
}

// modelTake is P20.3, word by word; beside it, what was told apart on the way.
func modelTake(r api.Result, at api.Stamp) (string, api.Errno, []string) {
	if at.Wall == topWall {
		return "", api.ErrArg, nil
	}
	if stamp.Pack(at) >= stamp.Pack(feed.Bound(r)) {
		return "", api.ErrEarly, nil
	}
	var states []*state.State
	for n, s := range r.Shards {
		_, records := wal.Pick(s.Disk[0], s.Disk[1])
		kept, e := state.Replay(uint32(n), records)
		if e != api.OK {
			kept = state.New(uint32(n))
		}
		states = append(states, kept)
	}
	for _, s := range states {
		if stamp.Pack(at) < stamp.Pack(s.Watermark()) {
			return "", api.ErrOld, nil
		}
	}
	all, why := map[string]string{}, []string(nil)
	for n := len(states) - 1; n >= 0; n-- { // a lower place lays its pairs over those of the higher ones
		newest := map[string]api.Version{}
		for _, v := range states[n].Versions() {
			if stamp.Pack(v.At) > stamp.Pack(at) {
				why = append(why, "above")
				continue
			}
			old, there := newest[v.Key]
			if there {
				why = append(why, "several")
			}
			if !there || stamp.Pack(old.At) < stamp.Pack(v.At) {
				newest[v.Key] = v
			}
		}
		for key, v := range newest {
			_, twice := all[key]
			switch {
			case v.Delete && twice:
				why = append(why, "hides none")
			case v.Delete:
				why = append(why, "deleted")
			case twice:
				why = append(why, "the lowest place")
			}
			if !v.Delete {
				all[key] = v.Value
			}
		}
	}
	var pairs []api.Pair
	for key, value := range all {
		pairs = append(pairs, api.Pair{Key: key, Value: value})
	}
	slices.SortFunc(pairs, func(a, b api.Pair) int { return strings.Compare(a.Key, b.Key) })
	if len(pairs) > 0 {
		why = append(why, "pairs")
	}
	return modelText(at, pairs), api.OK, why
}

// modelRecords is what P20.5 lists for a shard that has these pairs.
func modelRecords(shard uint32, at api.Stamp, pairs []api.Pair) []api.Record {
	list := []api.Record{{Kind: api.RecReserve, Wall: at.Wall + 1}}
	groups := (len(pairs) + 15) / 16
	for g := 1; g <= groups; g++ {
		r := api.Record{Kind: api.RecPrepare, Txn: api.Txn{Client: topSmall, Seq: uint32(g)}, Home: shard, At: at}
		for i := (g - 1) * 16; i < g*16 && i < len(pairs); i++ {
			r.Writes = append(r.Writes, api.Write{Key: pairs[i].Key, Value: pairs[i].Value})
		}
		list = append(list, r)
	}
	for g := 1; g <= groups; g++ {
		list = append(list, api.Record{Kind: api.RecDecide, Txn: api.Txn{Client: topSmall, Seq: uint32(g)}, Home: shard, Outcome: api.Committed, At: at})
	}
	return list
}

// headerLength is the length of the payload that a log of generation 1 begins with.
const headerLength = "\x00\x00\x00\x06"

// modelLog is the bytes of a log of generation 1 with these records.
func modelLog(records []api.Record) string {
	payload := "\x00tide\x01"
	sum := crc32.ChecksumIEEE([]byte(headerLength + payload))
	var bytes strings.Builder
	bytes.WriteString(headerLength + string([]byte{byte(sum >> 24), byte(sum >> 16), byte(sum >> 8), byte(sum)}) + payload)
	for _, r := range records {
		b, e := wal.Encode(r)
		if e != api.OK {
			panic(fmt.Sprint(r, e))
		}
		bytes.WriteString(b)
	}
	return bytes.String()
}

// modelOwner is the shard in whose range a key is.
func modelOwner(c api.Config, key string) int {
	shard := 0
	for shard < len(c.Splits) && c.Splits[shard] <= key {
		shard++
	}
	return shard
}

// modelPart is a shard's part of the pairs.
func modelPart(c api.Config, shard int, pairs []api.Pair) []api.Pair {
	var part []api.Pair
	for _, p := range pairs {
		if modelOwner(c, p.Key) == shard {
			part = append(part, p)
		}
	}
	return part
}

// modelRestore is P20.5 of a right configuration and a backup.
func modelRestore(c api.Config, at api.Stamp, pairs []api.Pair) ([]string, api.Errno) {
	var disks []string
	for shard := range c.Shards {
		bytes := modelLog(modelRecords(uint32(shard), at, modelPart(c, shard, pairs)))
		if len(bytes) > c.Capacity {
			return nil, api.ErrFull
		}
		disks = append(disks, bytes)
	}
	return disks, api.OK
}
