package cluster

import (
	"maps"
	"slices"
	"strconv"
	"strings"

	"tidemark/api"
	"tidemark/stamp"
	"tidemark/token"
)

// story is what the events tell of a transaction.
type story struct {
	start    api.Stamp
	began    int // the line
	readOnly bool
	reads    []api.Span
	writes   map[string]api.Write
	commit   *api.Event // the one that has ended it, if one has
}

func isWrite(e api.Event) bool {
	return e.Answer.Status == api.OK && (e.Answer.Op.Kind == api.OpPut || e.Answer.Op.Kind == api.OpDelete)
}

func isRead(e api.Event) bool {
	return e.Answer.Status == api.OK && (e.Answer.Op.Kind == api.OpGet || e.Answer.Op.Kind == api.OpScan)
}

func spanOf(op api.Op) api.Span {
	if op.Kind == api.OpGet {
		return api.Span{Lo: op.Key, Hi: op.Key + "\x00"}
	}
	return api.Span{Lo: op.Key, Hi: op.Hi}
}

func inside(key string, s api.Span) bool { return s.Lo <= key && (s.Hi == "" || key < s.Hi) }

// stories tells the transactions that began OK.
func stories(events []api.Event) map[api.Txn]*story {
	all := map[api.Txn]*story{}
	for i, e := range events {
		a := e.Answer
		s := all[a.Txn]
		switch {
		case a.Op.Kind == api.OpBegin && a.Status == api.OK:
			all[a.Txn] = &story{start: a.At, began: e.Asked, readOnly: a.Op.ReadOnly, writes: map[string]api.Write{}}
		case isWrite(e):
			s.writes[a.Op.Key] = api.Write{Key: a.Op.Key, Delete: a.Op.Kind == api.OpDelete, Value: a.Op.Value}
		case isRead(e):
			s.reads = append(s.reads, spanOf(a.Op))
		case a.Op.Kind == api.OpCommit && a.Status != api.ErrNone && a.Status != api.ErrWait:
			s.commit = &events[i]
		}
	}
	return all
}

func lay(m map[string]string, writes map[string]api.Write) {
	for key, w := range writes {
		if w.Delete {
			delete(m, key)
		} else {
			m[key] = w.Value
		}
	}
}

// stateBelow lays the commits at or below a stamp, or those below it, on an empty map.
func stateBelow(r api.Result, all map[api.Txn]*story, when api.Stamp, itself bool) map[string]string {
	m := map[string]string{}
	for _, e := range r.Commits { // by their stamps
		if stamp.Less(e.At, when) || itself && e.At == when {
			lay(m, all[e.Txn].writes)
		}
	}
	return m
}

// gives tells what a read at a place of the events is to be answered over a map, which it changes.
func gives(r api.Result, place int, m map[string]string) []api.Pair {
	read := r.Events[place].Answer
	own := stories(r.Events[:place])[read.Txn]
	lay(m, own.writes)
	var pairs []api.Pair
	for _, key := range slices.Sorted(maps.Keys(m)) {
		if inside(key, spanOf(read.Op)) {
			pairs = append(pairs, api.Pair{Key: key, Value: m[key]})
		}
	}
	if read.Op.Back {
		slices.Reverse(pairs)
	}
	if read.Op.Limit > 0 && len(pairs) > read.Op.Limit {
		pairs = pairs[:read.Op.Limit]
	}
	return pairs
}

// oneOrder holds a run to P0.1.
func (h *history) oneOrder(r api.Result) {
	all := stories(r.Events)
	commits := map[api.Txn]api.Stamp{}
	stamps := map[api.Stamp]api.Txn{}
	for _, e := range r.Commits {
		if _, twice := commits[e.Txn]; twice {
			h.fail("P0.1: %v is committed twice", e.Txn)
		}
		if other, twice := stamps[e.At]; twice {
			h.fail("P0.1: %v and %v are committed at %v", e.Txn, other, e.At)
		}
		commits[e.Txn], stamps[e.At] = e.At, e.Txn
		s := all[e.Txn]
		if s == nil || len(s.writes) == 0 {
			h.fail("P0.1: %v is committed, and has no write", e.Txn)
		}
		if !stamp.Less(s.start, e.At) {
			h.fail("P0.1: %v began at %v and is committed at %v", e.Txn, s.start, e.At)
		}
	}
	for _, e := range r.Events {
		a := e.Answer
		at, committed := commits[a.Txn]
		switch {
		case a.Op.Kind == api.OpCommit && a.Status == api.OK && len(all[a.Txn].writes) > 0:
			if !committed || at != a.At {
				h.fail("P0.1: the commit of %v is answered OK at %v, and is in the set: %v, at %v", a.Txn, a.At, committed, at)
			}
		case a.Op.Kind == api.OpCommit && a.Status != api.OK && a.Status != api.ErrNone && a.Status != api.ErrWait,
			a.Op.Kind == api.OpAbort && a.Status == api.OK:
			if committed {
				h.fail("P0.1: %v was answered %d, and is committed", a.Txn, a.Status)
			}
		}
	}
}

// serial holds a run to P0.2 and P0.3.
func (h *history) serial(r api.Result) {
	all := stories(r.Events)
	commits := map[api.Txn]api.Stamp{}
	for _, e := range r.Commits {
		commits[e.Txn] = e.At
	}
	for i, e := range r.Events {
		if !isRead(e) {
			continue
		}
		if want := gives(r, i, stateBelow(r, all, all[e.Answer.Txn].start, true)); !slices.Equal(e.Answer.Pairs, want) {
			h.fail("P0.3: the read of line %d is answered %v, the snapshot is %v", e.Asked, e.Answer.Pairs, want)
		}
		at, committed := commits[e.Answer.Txn]
		if !committed {
			continue
		}
		if want := gives(r, i, stateBelow(r, all, at, false)); !slices.Equal(e.Answer.Pairs, want) {
			h.fail("P0.2: the read of line %d is answered %v, run one by one it is %v", e.Asked, e.Answer.Pairs, want)
		}
	}
}

// causal holds a run to P0.4.
func (h *history) causal(r api.Result) {
	for _, e := range r.Events {
		a := e.Answer
		if a.Status != api.OK {
			continue
		}
		if a.Op.Kind == api.OpBegin && a.Op.Token != "" {
			seen, e := token.Decode(a.Op.Token)
			if e != api.OK || a.Op.AsOf && a.At != seen || !a.Op.AsOf && !stamp.Less(seen, a.At) {
				h.fail("P0.4: %v begins at %v with the token of %v", a.Txn, a.At, seen)
			}
		}
		if a.Op.Kind == api.OpCommit && a.Token != token.Encode(a.At) {
			h.fail("P0.4: the commit of %v at %v has the token %q", a.Txn, a.At, a.Token)
		}
	}
}

// oneOutcome holds a run to P0.5.
func (h *history) oneOutcome(r api.Result) {
	commits := map[api.Txn]api.Entry{}
	for _, e := range r.Commits {
		commits[e.Txn] = e
	}
	held := map[api.Txn]api.Entry{}
	for n, s := range r.Shards {
		for _, e := range s.Entries {
			if other, there := held[e.Txn]; there && (other.Outcome != e.Outcome || other.At != e.At) {
				h.fail("P0.5: %v and %v are held", other, e)
			}
			held[e.Txn] = e
			c, committed := commits[e.Txn]
			if e.Outcome == api.Aborted && committed {
				h.fail("P0.5: shard %d holds %v, committed is %v", n, e, c)
			}
			if e.Outcome == api.Committed && int(e.Home) != n && (!committed || c.At != e.At) {
				h.fail("P0.5: shard %d holds %v, and in the set is %v", n, e, c)
			}
		}
	}
}

// heard holds a run to P0.10.
func (h *history) heard(r api.Result) {
	kinds := map[string]api.OpKind{"begin": api.OpBegin, "get": api.OpGet, "scan": api.OpScan, "rscan": api.OpScan, "put": api.OpPut, "del": api.OpDelete, "commit": api.OpCommit, "abort": api.OpAbort}
	asked := map[int][]api.OpKind{}
	last := 0
	for _, e := range r.Events {
		if e.Answered < last || e.Answered < e.Asked || e.Asked < 1 {
			h.fail("P0.10: an event of the lines %d and %d behind the line %d", e.Asked, e.Answered, last)
		}
		last = e.Answered
		asked[e.Asked] = append(asked[e.Asked], e.Answer.Op.Kind)
	}
	for _, e := range r.Waiting {
		asked[e.Asked] = append(asked[e.Asked], e.Answer.Op.Kind)
	}
	for i, line := range h.lines {
		fields := strings.Split(line, " ")
		if fields[0] == "kill" && h.status[i] == api.OK {
			for _, e := range h.ahead[i].Waiting {
				if strconv.Itoa(int(e.Answer.Client)) == fields[1] {
					asked[e.Asked] = append(asked[e.Asked], e.Answer.Op.Kind)
				}
			}
		}
	}
	for i, line := range h.lines {
		name, _, _ := strings.Cut(line, " ")
		kind, of := kinds[name]
		of = of && h.status[i] == api.OK
		if got := asked[i+1]; of && !slices.Equal(got, []api.OpKind{kind}) || !of && len(got) > 0 {
			h.fail("P0.10: of the line %d there are %v", i+1, got)
		}
	}
}

// modest holds a run to P0.11.
func (h *history) modest(r api.Result) {
	usable := func(what string, s api.Stamp) {
		if s.Wall == 1<<64-1 {
			h.fail("P0.11: %s is at %v", what, s)
		}
	}
	for _, e := range r.Events {
		usable("an answer", e.Answer.At)
		if e.Answer.Status != api.OK && (len(e.Answer.Pairs) > 0 || e.Answer.Token != "") {
			h.fail("P0.11: %+v", e)
		}
	}
	for _, e := range r.Waiting {
		usable("what waits", e.Answer.At)
	}
	for _, e := range r.Commits {
		usable("a commit", e.At)
	}
	for _, s := range r.Shards {
		usable("a watermark", s.Watermark)
		for _, e := range s.Entries {
			usable("an entry", e.At)
		}
		for _, held := range s.Held {
			usable("what is held", held.At)
		}
	}
}

// clientOf tells the client that a line names.
func clientOf(line string) string {
	fields := strings.Split(line, " ")
	if len(fields) < 2 {
		return ""
	}
	return fields[1]
}

// isDone tells whether the line at a place was done, and has one of these names.
func (h *history) isDone(i int, names ...string) bool {
	name, _, _ := strings.Cut(h.lines[i], " ")
	return h.status[i] == api.OK && slices.Contains(names, name)
}

// between tells whether a line with one of these names was done behind a line and ahead of another one, both told by their numbers.
func (h *history) between(from, to int, names ...string) bool {
	for i := from; i < to-1; i++ {
		if h.isDone(i, names...) {
			return true
		}
	}
	return false
}

// waited tells whether an operation of a client that was asked ahead of a line waited at it.
func (h *history) waited(r api.Result, client uint32, line int) bool {
	waits := func(e api.Event) bool {
		return e.Answer.Client == client && e.Asked < line && (e.Answered == 0 || e.Answered > line)
	}
	if slices.ContainsFunc(r.Events, waits) || slices.ContainsFunc(r.Waiting, waits) {
		return true
	}
	for i := line; i < len(h.lines); i++ { // what was killed later
		if h.isDone(i, "kill") && slices.ContainsFunc(h.ahead[i].Waiting, waits) {
			return true
		}
	}
	return false
}

// marked tells whether a mark above a stamp was done up to a line.
func (h *history) marked(start api.Stamp, line int) bool {
	for i := range line {
		fields := strings.Split(h.lines[i], " ")
		if h.isDone(i, "mark") {
			if w, e := stamp.Parse(fields[2]); e == api.OK && stamp.Less(start, w) {
				return true
			}
		}
	}
	return false
}

// farOut tells whether a clock may come near its end.
func (h *history) farOut(r api.Result) bool {
	out := r.Config.Window > far
	for i, line := range h.lines {
		fields := strings.Split(line, " ")
		if h.isDone(i, "wall") {
			reading, _ := strconv.ParseUint(fields[2], 10, 64)
			out = out || reading > far
		}
		if h.isDone(i, "begin") {
			out = out || fields[3] != "%" && fields[3][0] != '@'
		}
	}
	return out
}

// reasons holds a run to P0.12.
func (h *history) reasons(r api.Result) {
	all := stories(r.Events)
	open := map[uint32]api.Txn{}
	line := 0
	for _, e := range r.Events {
		for ; line < e.Answered; line++ {
			if h.isDone(line, "kill") {
				n, _ := strconv.Atoi(clientOf(h.lines[line]))
				delete(open, uint32(n))
			}
		}
		a := e.Answer
		id, there := open[a.Client]
		ends := a.Op.Kind == api.OpCommit && a.Status != api.ErrNone && a.Status != api.ErrWait || a.Op.Kind == api.OpAbort && a.Status == api.OK
		wrong := there && a.Txn != id ||
			a.Status == api.ErrNone && there || a.Status == api.ErrOpen && !there ||
			a.Status == api.ErrWait && !h.waited(r, a.Client, e.Asked) ||
			a.Status == api.ErrReadOnly && !all[id].readOnly ||
			!h.hasReason(r, e, all)
		if wrong {
			h.fail("P0.12: %s, with a transaction open: %v, %v", told(e), there, id)
		}
		if ends {
			delete(open, a.Client)
		}
		if a.Op.Kind == api.OpBegin && a.Status == api.OK {
			open[a.Client] = a.Txn
		}
	}
}

// hasReason tells whether a commit or a read was answered with something for which there is a reason.
func (h *history) hasReason(r api.Result, e api.Event, all map[api.Txn]*story) bool {
	a := e.Answer
	commit, read := a.Op.Kind == api.OpCommit, a.Op.Kind == api.OpGet || a.Op.Kind == api.OpScan
	if !commit && !read {
		return true
	}
	mine := all[a.Txn]
	another := func(is func(id api.Txn, u *story) bool) bool {
		for id, u := range all {
			if id != a.Txn && is(id, u) {
				return true
			}
		}
		return false
	}
	set := committed(r)
	switch a.Status {
	case api.OK, api.ErrNone, api.ErrWait:
		return true
	case api.ErrArg, api.ErrMany:
		return read
	case api.ErrStale:
		return commit && another(func(id api.Txn, u *story) bool {
			return stamp.Less(mine.start, set[id].At) && touches(u, &story{reads: mine.reads})
		})
	case api.ErrConflict:
		return commit && another(func(_ api.Txn, u *story) bool { return len(u.writes) > 0 && meets(u, mine) })
	case api.ErrAborted:
		return commit && h.between(e.Asked, e.Answered, "tick", "round")
	case api.ErrBusy:
		return read && another(func(_ api.Txn, u *story) bool { return touches(u, &story{reads: []api.Span{spanOf(a.Op)}}) })
	case api.ErrOld:
		return h.marked(mine.start, e.Answered)
	case api.ErrFull:
		return r.Config.Capacity < capacity
	case api.ErrExhausted:
		return h.farOut(r)
	}
	return false
}

// meets tells whether two transactions have a key in common that one of them writes.
func meets(a, b *story) bool { return touches(a, b) || touches(b, a) }

// touches tells whether a writes a key that b writes or has read.
func touches(a, b *story) bool {
	for key := range a.writes {
		if _, too := b.writes[key]; too || slices.ContainsFunc(b.reads, func(s api.Span) bool { return inside(key, s) }) {
			return true
		}
	}
	return false
}

// whole holds a run to all that its end tells.
func (h *history) whole() {
	h.t.Helper()
	r := h.c.Result()
	h.oneOrder(r)
	h.serial(r)
	h.causal(r)
	h.oneOutcome(r)
	h.heard(r)
	h.modest(r)
	h.reasons(r)
}

// committed gives the committed set by transaction.
func committed(r api.Result) map[api.Txn]api.Entry {
	all := map[api.Txn]api.Entry{}
	for _, e := range r.Commits {
		all[e.Txn] = e
	}
	return all
}
