package backup

import (
	"errors"
	"iter"
	"strconv"
	"strings"

	"tidemark/api"
	"tidemark/route"
	"tidemark/stamp"
)

// errNoBackup is what the reader gives up with, however deep inside it is.
var errNoBackup = errors.New("the text is no backup")

// Read gives the stamp and the pairs of a backup's text (P20.2).
func Read(text string) (at api.Stamp, pairs []api.Pair, e api.Errno) {
	defer func() {
		if gaveUp(recover()) {
			e = api.ErrBackup // the others are zero still, as nothing was read
		}
	}()
	at, pairs = read(text)
	return at, pairs, api.OK
}

// gaveUp tells whether the reader gave a text up. Any other panic is no fault of the text: hiding it would spoil the answer.
func gaveUp(recovered any) bool {
	if recovered == nil {
		return false
	}
	if recovered != errNoBackup {
		panic(recovered)
	}
	return true
}

// must gives the text up, unless what has to hold of it holds.
func must(holds bool) {
	if !holds {
		panic(errNoBackup)
	}
}

// draft is what the lines of a text have said so far.
type draft struct {
	taken  int // lines
	at     api.Stamp
	count  uint64 // what the text says: the pairs may not be there
	pairs  []api.Pair
	summed bool
}

// read, and all that it calls, takes each thing in the one form that Write gives it: so no two texts read alike.
func read(text string) (api.Stamp, []api.Pair) {
	var d draft
	for ahead, line := range lines(text) {
		d.take(ahead, line)
	}
	must(d.summed && mayBe(d.at, d.pairs))
	return d.at, d.pairs
}

// lines goes over the lines of a text, without their ends: what stands ahead of each, and the line. Each must have an end.
func lines(text string) iter.Seq2[string, string] {
	return func(yield func(ahead, line string) bool) {
		for from := 0; from < len(text); {
			line, _, ended := strings.Cut(text[from:], "\n")
			must(ended)
			if !yield(text[:from], line) {
				return
			}
			from += len(line) + 1
		}
	}
}

// take takes the next line.
func (d *draft) take(ahead, line string) {
	switch {
	case d.taken == 0:
		must(line == title)
	case d.taken == 1:
		d.at = stampOf(behind(line, atName))
	case d.taken == 2:
		d.count = numberOf(behind(line, pairsName))
	case uint64(len(d.pairs)) < d.count:
		d.pairs = append(d.pairs, pairOf(behind(line, putName)))
	default:
		must(!d.summed && line == sumLine(ahead))
		d.summed = true
	}
	d.taken++
}

// behind gives what stands behind a line's name.
func behind(line, name string) string {
	rest, there := strings.CutPrefix(line, name)
	must(there)
	return rest
}

func stampOf(text string) api.Stamp {
	s, e := stamp.Parse(text)
	must(e == api.OK)
	return s
}

func numberOf(digits string) uint64 {
	n, err := strconv.ParseUint(digits, 10, 64)
	must(err == nil && strconv.FormatUint(n, 10) == digits) // no leading zeros
	return n
}

// pairOf reads two words. Where no blank stands the second one is empty, and the empty text is no word.
func pairOf(words string) api.Pair {
	key, value, _ := strings.Cut(words, " ")
	return api.Pair{Key: textOf(key), Value: textOf(value)}
}

func textOf(word string) string {
	text, e := route.Unword(word)
	must(e == api.OK)
	return text
}
