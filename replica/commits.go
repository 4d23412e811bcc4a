package replica

import (
	"iter"

	"tidemark/api"
	"tidemark/stamp"
	"tidemark/valid"
)

// commits goes over changes as commits: what stands side by side at one stamp is one, the stamp and its writes.
func commits(changes []api.Version) iter.Seq2[api.Stamp, []api.Write] {
	return func(yield func(api.Stamp, []api.Write) bool) {
		var writes []api.Write
		for i, c := range changes {
			writes = append(writes, api.Write{Key: c.Key, Delete: c.Delete, Value: c.Value})
			if i+1 < len(changes) && changes[i+1].At == c.At {
				continue
			}
			if !yield(c.At, writes) {
				return
			}
			writes = nil
		}
	}
}

// fault tells why changes may not follow at a replica's bound, as they would raise it to another one; the first fault counts.
func fault(changes []api.Version, from, to api.Stamp) api.Errno {
	if stamp.Less(to, from) {
		return api.ErrOrder
	}
	for at, writes := range commits(changes) {
		inTurn := !stamp.Less(at, from) && stamp.Less(at, to)
		if e := faultOf(at, writes, inTurn); e != api.OK {
			return e
		}
		from = at // the next commit is at another stamp, so a lower one is out of its turn
	}
	return api.OK
}

// faultOf tells the first fault of a commit's writes. A commit out of its turn has it at its first write, but each write must be good first.
func faultOf(at api.Stamp, writes []api.Write, inTurn bool) api.Errno {
	last := "" // below every key
	for _, w := range writes {
		if !valid.Usable(at) || !valid.Write(w) {
			return api.ErrArg
		}
		if !inTurn || w.Key <= last {
			return api.ErrOrder
		}
		last = w.Key
	}
	return api.OK
}
