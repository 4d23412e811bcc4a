package msg

import (
	"math"

	"tidemark/api"
	"tidemark/valid"
	"tidemark/wire"
)

// transaction is the part that every kind but Read and Data has: which transaction it is about. By itself it is all of a Query.
type transaction struct {
	txn  api.Txn
	home uint32
}

func transactionOf(m api.Msg) transaction { return transaction{m.Txn, m.Home} }

func (t *transaction) valid() bool { return valid.Txn(t.txn) }

func (t *transaction) put(e *wire.Enc) {
	putNumber(e, t.txn.Client)
	putNumber(e, t.txn.Seq)
	putNumber(e, t.home)
}

func (t *transaction) take(d *wire.Dec) {
	t.txn.Client, t.txn.Seq, t.home = takeNumber(d), takeNumber(d), takeNumber(d)
}

// verdict is what Done, Decide and Tell have: the outcome of a transaction.
type verdict struct {
	transaction
	outcome api.Outcome
	at      api.Stamp
}

func verdictOf(m api.Msg) verdict { return verdict{transactionOf(m), m.Outcome, m.At} }

func (v *verdict) valid() bool {
	switch v.outcome {
	case api.Committed:
		return v.transaction.valid()
	case api.Aborted:
		return v.transaction.valid() && v.at == api.Stamp{}
	}
	return false
}

func (v *verdict) put(e *wire.Enc) {
	v.transaction.put(e)
	e.Byte(byte(v.outcome))
	e.Stamp(v.at)
}

func (v *verdict) take(d *wire.Dec) {
	v.transaction.take(d)
	v.outcome, v.at = api.Outcome(d.Byte()), d.Stamp()
}

func dataStatus(s api.Errno) bool {
	switch s {
	case api.OK, api.ErrExhausted, api.ErrFull, api.ErrOld, api.ErrBusy, api.ErrMany:
		return true
	}
	return false
}

func voteStatus(s api.Errno) bool {
	switch s {
	case api.OK, api.ErrExhausted, api.ErrFull, api.ErrOld, api.ErrConflict, api.ErrStale, api.ErrAborted:
		return true
	}
	return false
}

func putNumber(e *wire.Enc, n uint32) { e.Var(uint64(n)) }

func takeNumber(d *wire.Dec) uint32 { return uint32(d.Var(math.MaxUint32)) }

func putStatus(e *wire.Enc, s api.Errno) { e.Var(uint64(s)) }

// takeStatus takes no number that an Errno could not tell apart from a smaller one.
func takeStatus(d *wire.Dec) api.Errno { return api.Errno(d.Var(math.MaxInt32)) }

func putSpan(e *wire.Enc, s api.Span) {
	e.Text(s.Lo)
	e.Text(s.Hi)
}

func takeSpan(d *wire.Dec) api.Span {
	return api.Span{Lo: d.Text(api.MaxBound), Hi: d.Text(api.MaxBound)}
}

func putPair(e *wire.Enc, p api.Pair) {
	e.Text(p.Key)
	e.Text(p.Value)
}

func takePair(d *wire.Dec) api.Pair {
	return api.Pair{Key: d.Text(api.MaxKey), Value: d.Text(api.MaxValue)}
}

func putWrite(e *wire.Enc, w api.Write) {
	e.Text(w.Key)
	e.Flag(w.Delete)
	if !w.Delete {
		e.Text(w.Value)
	}
}

func takeWrite(d *wire.Dec) api.Write {
	w := api.Write{Key: d.Text(api.MaxKey), Delete: d.Flag()}
	if !w.Delete {
		w.Value = d.Text(api.MaxValue)
	}
	return w
}

func putList[T any](e *wire.Enc, list []T, put func(*wire.Enc, T)) {
	e.Var(uint64(len(list)))
	for _, one := range list {
		put(e, one)
	}
}

func takeList[T any](d *wire.Dec, most uint64, take func(*wire.Dec) T) []T {
	var list []T
	for range d.Var(most) {
		list = append(list, take(d))
	}
	return list
}
