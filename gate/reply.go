package gate

import (
	"strconv"
	"strings"

	"tidemark/api"
	"tidemark/route"
	"tidemark/stamp"
)

// statusNames are the names of the statuses that have one.
var statusNames = [...]struct {
	status api.Errno
	name   string
}{
	{api.ErrArg, "arg"},
	{api.ErrExhausted, "exhausted"},
	{api.ErrToken, "token"},
	{api.ErrFull, "full"},
	{api.ErrOld, "old"},
	{api.ErrConflict, "conflict"},
	{api.ErrBusy, "busy"},
	{api.ErrStale, "stale"},
	{api.ErrMany, "many"},
	{api.ErrOpen, "open"},
	{api.ErrNone, "none"},
	{api.ErrWait, "wait"},
	{api.ErrReadOnly, "readonly"},
	{api.ErrAborted, "aborted"},
	{api.ErrRequest, "request"},
}

// Reply gives an answer's line, without the line's end (P21.3). Texts stand in it as words: none can end the line.
func Reply(a api.Answer) string {
	if a.Status != api.OK {
		return "error " + statusName(a.Status)
	}
	switch a.Op.Kind {
	case api.OpBegin:
		return "begun " + decimal(a.Txn.Client) + " " + decimal(a.Txn.Seq) + " " + stamp.Text(a.At)
	case api.OpGet:
		return valueReply(a.Pairs)
	case api.OpScan:
		return pairsReply(a.Pairs)
	case api.OpCommit:
		return "committed " + stamp.Text(a.At) + " " + route.Word(a.Token)
	}
	return "ok"
}

// statusName gives the name of a status; without one, its number.
func statusName(e api.Errno) string {
	for _, row := range statusNames {
		if row.status == e {
			return row.name
		}
	}
	return strconv.Itoa(int(e))
}

func decimal(n uint32) string { return strconv.FormatUint(uint64(n), 10) }

func valueReply(pairs []api.Pair) string {
	if len(pairs) == 0 {
		return "none"
	}
	return "value " + route.Word(pairs[0].Value)
}

func pairsReply(pairs []api.Pair) string {
	var reply strings.Builder
	reply.WriteString("pairs " + strconv.Itoa(len(pairs)))
	for _, p := range pairs {
		reply.WriteString(" " + route.Word(p.Key) + " " + route.Word(p.Value))
	}
	return reply.String()
}
