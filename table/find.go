package table

import "tidemark/api"

// Find gives the rows of a reading operation, by what was read (P26.8, P26.11).
func Find(s api.Schema, op api.TableOp, pairs []api.Pair) ([][]api.Value, api.Errno) {
	if !mayBe(s) {
		return nil, api.ErrSchema
	}
	if writes(op.Kind) || !mayAsk(s, op) || !rise(pairs) {
		return nil, api.ErrArg
	}
	asked := inside(pairs, needs(s, op)[0])
	if op.Kind == api.TabFind {
		return owners(s, op.Index, asked, pairs)
	}
	rows := rowsOf(s, asked)
	if len(rows) < len(asked) {
		return nil, api.ErrTorn
	}
	return rows, api.OK
}

// owners gives the rows, of those that pairs make, of which some pairs are the entries in the index at a place. No two rows have one entry: it tells the row's key.
func owners(s api.Schema, place int, entries, pairs []api.Pair) ([][]api.Value, api.Errno) {
	rows := rowsOf(s, pairs)
	places := map[api.Pair]int{}
	for i, row := range rows {
		places[entry(s, place, row)] = i
	}
	var found [][]api.Value
	for _, p := range entries {
		i, there := places[p]
		if !there {
			return nil, api.ErrTorn
		}
		found = append(found, rows[i])
	}
	return found, api.OK
}
