package backup

import (
	"strconv"
	"strings"

	"tidemark/api"
	"tidemark/route"
	"tidemark/stamp"
	"tidemark/valid"
	"tidemark/wire"
)

// What the lines of a text are, or begin with.
const (
	title     = "tidemark backup 1"
	atName    = "at "
	pairsName = "pairs "
	putName   = "put "
	sumName   = "sum "
)

const sumDigits = 8

// Write gives the text of a backup (P20.1).
func Write(at api.Stamp, pairs []api.Pair) (string, api.Errno) {
	if !mayBe(at, pairs) {
		return "", api.ErrArg
	}
	body := bodyOf(at, pairs)
	return body + sumLine(body) + "\n", api.OK
}

// mayBe tells whether there is a backup of a stamp and pairs.
func mayBe(at api.Stamp, pairs []api.Pair) bool { return valid.Usable(at) && valid.AnyPairs(pairs) }

// bodyOf gives all lines ahead of the sum.
func bodyOf(at api.Stamp, pairs []api.Pair) string {
	var body strings.Builder
	body.WriteString(title + "\n")
	body.WriteString(atName + stamp.Text(at) + "\n")
	body.WriteString(pairsName + strconv.Itoa(len(pairs)) + "\n")
	for _, p := range pairs {
		body.WriteString(putName + route.Word(p.Key) + " " + route.Word(p.Value) + "\n")
	}
	return body.String()
}

// sumLine gives the line that follows a body, without its end.
func sumLine(body string) string {
	digits := strconv.FormatUint(uint64(wire.Crc(body)), 16)
	return sumName + strings.Repeat("0", sumDigits-len(digits)) + digits
}
