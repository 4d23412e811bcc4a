package audit

import (
	"fmt"
	"maps"
	"slices"

	"tidemark/api"
	"tidemark/token"
)

// The model does what the chapter says word by word, and slowly.

// order is a text that sorts as stamps do.
func order(s api.Stamp) string { return fmt.Sprintf("%020d %010d %010d", s.Wall, s.Logical, s.Node) }

func modelWrites(events []api.Event, txn api.Txn) []api.Write {
	var list []api.Write
	for _, e := range slices.Backward(events) {
		a := e.Answer
		write := a.Op.Kind == api.OpPut || a.Op.Kind == api.OpDelete
		seen := slices.ContainsFunc(list, func(w api.Write) bool { return w.Key == a.Op.Key })
		if !write || a.Status != api.OK || a.Txn != txn || seen {
			continue
		}
		if a.Op.Kind == api.OpDelete {
			list = append(list, api.Write{Key: a.Op.Key, Delete: true})
		} else {
			list = append(list, api.Write{Key: a.Op.Key, Value: a.Op.Value})
		}
	}
	slices.SortFunc(list, func(a, b api.Write) int {
		if a.Key < b.Key {
			return -1
		}
		return 1
	})
	return list
}

func modelLay(m map[string]string, list []api.Write) {
	for _, w := range list {
		if w.Delete {
			delete(m, w.Key)
		} else {
			m[w.Key] = w.Value
		}
	}
}

// modelState lays the commits that fit one behind the other on an empty map.
func modelState(r api.Result, fits func(at string) bool) map[string]string {
	byOrder := map[string]api.Entry{} // of two that are alike one is enough
	for _, e := range r.Commits {
		if e.Outcome == api.Committed {
			byOrder[fmt.Sprintf("%s %010d %010d", order(e.At), e.Txn.Client, e.Txn.Seq)] = e
		}
	}
	m := map[string]string{}
	for _, text := range slices.Sorted(maps.Keys(byOrder)) {
		if e := byOrder[text]; fits(order(e.At)) {
			modelLay(m, modelWrites(r.Events, e.Txn))
		}
	}
	return m
}

func modelPairs(m map[string]string, lo, hi string) []api.Pair {
	var list []api.Pair
	for _, key := range slices.Sorted(maps.Keys(m)) {
		if key >= lo && (hi == "" || key < hi) {
			list = append(list, api.Pair{Key: key, Value: m[key]})
		}
	}
	return list
}

func modelGives(r api.Result, place int, m map[string]string) []api.Pair {
	a := r.Events[place].Answer
	modelLay(m, modelWrites(r.Events[:place], a.Txn))
	hi := a.Op.Hi
	if a.Op.Kind == api.OpGet {
		hi = a.Op.Key + "\x00"
	}
	list := modelPairs(m, a.Op.Key, hi)
	if a.Op.Back && a.Op.Kind == api.OpScan {
		slices.Reverse(list)
	}
	if n := a.Op.Limit; n > 0 && n < len(list) {
		list = list[:n]
	}
	return list
}

func modelSnapshot(r api.Result, place int) []api.Pair {
	at := order(r.Events[place].Answer.At)
	return modelGives(r, place, modelState(r, func(text string) bool { return text <= at }))
}

func modelSerial(r api.Result, place int, at api.Stamp) []api.Pair {
	return modelGives(r, place, modelState(r, func(text string) bool { return text < order(at) }))
}

func modelCheck(r api.Result) (api.Errno, int) {
	for i, e := range r.Commits {
		for _, f := range r.Commits[:i] {
			if e.Outcome == api.Committed && f.Outcome == api.Committed && (e.Txn == f.Txn || e.At == f.At) {
				return api.ErrTwin, i
			}
		}
	}
	for i := range r.Events {
		if e := modelEvent(r, i); e != api.OK {
			return e, i
		}
	}
	return api.OK, 0
}

func modelEvent(r api.Result, place int) api.Errno {
	a := r.Events[place].Answer
	commit := slices.IndexFunc(r.Commits, func(e api.Entry) bool { return e.Outcome == api.Committed && e.Txn == a.Txn })
	kind, ok := a.Op.Kind, a.Status == api.OK
	switch {
	case kind == api.OpBegin && ok && a.Op.Token != "":
		s, e := token.Decode(a.Op.Token)
		if e != api.OK || !a.Op.AsOf && order(s) >= order(a.At) || a.Op.AsOf && s != a.At {
			return api.ErrCause
		}
	case kind == api.OpCommit && ok:
		if len(modelWrites(r.Events, a.Txn)) > 0 {
			if commit < 0 || r.Commits[commit].At != a.At {
				return api.ErrLost
			}
			for _, e := range r.Events[:place] {
				b := e.Answer
				if b.Op.Kind == api.OpBegin && b.Status == api.OK && b.Txn == a.Txn && order(b.At) >= order(a.At) {
					return api.ErrCause
				}
			}
		}
		if a.Token != token.Encode(a.At) {
			return api.ErrCause
		}
	case kind == api.OpCommit && a.Status != api.ErrNone && a.Status != api.ErrWait, kind == api.OpAbort && ok:
		if commit >= 0 {
			return api.ErrGhost
		}
	case (kind == api.OpGet || kind == api.OpScan) && ok:
		if !slices.Equal(a.Pairs, modelSnapshot(r, place)) {
			return api.ErrSnapshot
		}
		if commit >= 0 && !slices.Equal(a.Pairs, modelSerial(r, place, r.Commits[commit].At)) {
			return api.ErrSerial
		}
	}
	return api.OK
}
