package msg

import (
	"math"

	"tidemark/api"
	"tidemark/wire"
)

// transaction is the part that every kind but Read and Data has: which transaction it is about. By itself it is all of a Query.
type transaction struct {
	txn  api.Txn
	home uint32
}

func transactionOf(m api.Msg) transaction { return transaction{m.Txn, m.Home} }

func (t *transaction) valid() bool { return t.txn.Seq >= 1 }

func (t *transaction) put(e *wire.Enc) {
	putNumber(e, t.txn.Client)
	putNumber(e, t.txn.Seq)
	putNumber(e, t.home)
}

func (t *transaction) take(d *wire.Dec) {
	t.txn.Client, t.txn.Seq, t.home = takeNumber(d), takeNumber(d), takeNumber(d)
}

// verdict is what Done, Decide and Tell have: the outcome of a transaction.
type verdict struct {
	transaction
	outcome api.Outcome
	at      api.Stamp
}

func verdictOf(m api.Msg) verdict { return verdict{transactionOf(m), m.Outcome, m.At} }

func (v *verdict) valid() bool {
	switch v.outcome {
	case api.Committed:
		return v.transaction.valid()
	case api.Aborted:
		return v.transaction.valid() && v.at == api.Stamp{}
	}
	return false
}

func (v *verdict) put(e *wire.Enc) {
	v.transaction.put(e)
	e.Byte(byte(v.outcome))
	e.Stamp(v.at)
}

func (v *verdict) take(d *wire.Dec) {
	v.transaction.take(d)
	v.outcome, v.at = api.Outcome(d.Byte()), d.Stamp()
}

func dataStatus(s api.Errno) bool {
	switch s {
	case api.OK, api.ErrExhausted, api.ErrFull, api.ErrOld, api.ErrBusy, api.ErrMany:
		return true
	}
	return false
}

func voteStatus(s api.Errno) bool {
	switch s {
	case api.OK, api.ErrExhausted, api.ErrFull, api.ErrOld, api.ErrConflict, api.ErrStale, api.ErrAborted:
		return true
	}
	return false
}

func validReads(list []api.Span) bool {
	if len(list) > api.MaxReads {
		return false
	}
	for _, s := range list {
		if !validSpan(s) {
			return false
		}
	}
	return true
}

func validSpan(s api.Span) bool {
	if len(s.Lo) > api.MaxBound || len(s.Hi) > api.MaxBound {
		return false
	}
	return s.Hi == "" || s.Lo < s.Hi
}

func validWrites(list []api.Write) bool {
	if len(list) > api.MaxWrites {
		return false
	}
	last := ""
	for _, w := range list {
		if !nextKey(last, w.Key) || len(w.Value) > api.MaxValue || w.Delete && w.Value != "" {
			return false
		}
		last = w.Key
	}
	return true
}

func validPairs(list []api.Pair) bool {
	if len(list) > api.MaxPairs {
		return false
	}
	last := ""
	for _, p := range list {
		if !nextKey(last, p.Key) || len(p.Value) > api.MaxValue {
			return false
		}
		last = p.Key
	}
	return true
}

// nextKey tells whether a key may stand behind last. The empty text stands ahead of all: it is no key itself, and each key is above it.
func nextKey(last, key string) bool { return last < key && len(key) <= api.MaxKey }

func putNumber(e *wire.Enc, n uint32) { e.Var(uint64(n)) }

func takeNumber(d *wire.Dec) uint32 { return uint32(d.Var(math.MaxUint32)) }

func putStatus(e *wire.Enc, s api.Errno) { e.Var(uint64(s)) }

// takeStatus takes no number that an Errno could not tell apart from a smaller one.
func takeStatus(d *wire.Dec) api.Errno { return api.Errno(d.Var(math.MaxInt32)) }

func putSpan(e *wire.Enc, s api.Span) {
	e.Text(s.Lo)
	e.Text(s.Hi)
}

func takeSpan(d *wire.Dec) api.Span {
	return api.Span{Lo: d.Text(api.MaxBound), Hi: d.Text(api.MaxBound)}
}

func putPair(e *wire.Enc, p api.Pair) {
	e.Text(p.Key)
	e.Text(p.Value)
}

func takePair(d *wire.Dec) api.Pair {
	return api.Pair{Key: d.Text(api.MaxKey), Value: d.Text(api.MaxValue)}
}

func putWrite(e *wire.Enc, w api.Write) {
	e.Text(w.Key)
	e.Flag(w.Delete)
	if !w.Delete {
		e.Text(w.Value)
	}
}

func takeWrite(d *wire.Dec) api.Write {
	w := api.Write{Key: d.Text(api.MaxKey), Delete: d.Flag()}
	if !w.Delete {
		w.Value = d.Text(api.MaxValue)
	}
	return w
}

func putList[T any](e *wire.Enc, list []T, put func(*wire.Enc, T)) {
	e.Var(uint64(len(list)))
	for _, one := range list {
		put(e, one)
	}
}

func takeList[T any](d *wire.Dec, most uint64, take func(*wire.Dec) T) []T {
	var list []T
	for range d.Var(most) {
		list = append(list, take(d))
	}
	return list
}
