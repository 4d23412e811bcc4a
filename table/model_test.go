package table

import (
	"regexp"
	"slices"
	"strconv"
	"strings"

	"tidemark/api"
	"tidemark/tuple"
)

// The model follows the chapter's words one by one, by patterns, by whole lists and by going over everything.

var (
	namePattern = regexp.MustCompile(`\A[a-z]{1,8}\z`)
	textPattern = regexp.MustCompile(`\Atable ([a-z]{1,6})\n((?:column [a-z]{1,8} (?:bool|int|text)\??\n){1,8})key ([1-8])\n((?:(?:index|unique) [a-z]{1,8}(?: [a-z]{1,8})+\n){0,4})\z`)
)

func modelSchema(s api.Schema) bool {
	if !namePattern.MatchString(s.Name) || len(s.Name) > 6 || len(s.Columns) < 1 || len(s.Columns) > 8 || s.Key < 1 || s.Key > len(s.Columns) || len(s.Indexes) > 4 {
		return false
	}
	names := map[string]bool{}
	for i, c := range s.Columns {
		if !namePattern.MatchString(c.Name) || names[c.Name] || c.Kind < 1 || c.Kind > 3 || i < s.Key && c.Null {
			return false
		}
		names[c.Name] = true
	}
	names = map[string]bool{}
	for _, x := range s.Indexes {
		if !namePattern.MatchString(x.Name) || names[x.Name] || len(x.Columns) < 1 {
			return false
		}
		names[x.Name] = true
		places := map[int]bool{}
		for _, i := range x.Columns {
			if i < 0 || i >= len(s.Columns) || places[i] {
				return false
			}
			places[i] = true
		}
	}
	return true
}

func modelText(s api.Schema) (string, api.Errno) {
	if !modelSchema(s) {
		return "", api.ErrSchema
	}
	text := "table " + s.Name + "\n"
	for _, c := range s.Columns {
		text += "column " + c.Name + " " + map[api.ValueKind]string{1: "bool", 2: "int", 3: "text"}[c.Kind] + map[bool]string{true: "?"}[c.Null] + "\n"
	}
	text += "key " + strconv.Itoa(s.Key) + "\n"
	for _, x := range s.Indexes {
		text += map[bool]string{false: "index ", true: "unique "}[x.Unique] + x.Name
		for _, i := range x.Columns {
			text += " " + s.Columns[i].Name
		}
		text += "\n"
	}
	return text, api.OK
}

func modelParse(text string) (api.Schema, api.Errno) {
	parts := textPattern.FindStringSubmatch(text)
	if parts == nil {
		return api.Schema{}, api.ErrSchema
	}
	s := api.Schema{Name: parts[1], Key: int(parts[3][0] - '0')}
	places := map[string]int{}
	for _, line := range strings.Split(strings.TrimSuffix(parts[2], "\n"), "\n") {
		f := strings.Fields(line)
		places[f[1]] = len(s.Columns)
		s.Columns = append(s.Columns, api.Column{Name: f[1], Kind: map[string]api.ValueKind{"bool": 1, "int": 2, "text": 3}[strings.Trim(f[2], "?")], Null: strings.HasSuffix(f[2], "?")})
	}
	for _, line := range strings.Split(parts[4], "\n")[:strings.Count(parts[4], "\n")] {
		f := strings.Fields(line)
		x := api.Index{Name: f[1], Unique: f[0] == "unique"}
		for _, name := range f[2:] {
			i, there := places[name]
			if !there {
				return api.Schema{}, api.ErrSchema
			}
			x.Columns = append(x.Columns, i)
		}
		s.Indexes = append(s.Indexes, x)
	}
	if !modelSchema(s) {
		return api.Schema{}, api.ErrSchema
	}
	return s, api.OK
}

func modelCode(lists ...[]api.Value) string {
	b, e := tuple.Encode(slices.Concat(lists...))
	if e != api.OK {
		panic("the model's own list has no code")
	}
	return b
}

func modelValues(row []api.Value, places []int) []api.Value {
	var v []api.Value
	for _, i := range places {
		v = append(v, row[i])
	}
	return v
}

func modelValue(c api.Column, v api.Value) bool {
	_, e := tuple.Encode([]api.Value{v})
	return e == api.OK && (v.Kind == c.Kind || c.Null && v.Kind == 0)
}

// modelPairs are the pairs of a list of values that is a row but for its fitting.
func modelPairs(s api.Schema, values []api.Value) []api.Pair {
	name, key := []api.Value{value(s.Name)}, values[:s.Key]
	pairs := []api.Pair{{Key: modelCode(name, row(0), key), Value: modelCode(values[s.Key:])}}
	for i, x := range s.Indexes {
		v := modelValues(values, x.Columns)
		if x.Unique && !slices.Contains(v, value(nil)) {
			pairs = append(pairs, api.Pair{Key: modelCode(name, row(i+1), v), Value: modelCode(key)})
		} else {
			pairs = append(pairs, api.Pair{Key: modelCode(name, row(i+1), v, key), Value: ""})
		}
	}
	return pairs
}

func modelRow(s api.Schema, values []api.Value) bool {
	if len(values) != len(s.Columns) {
		return false
	}
	for i, v := range values {
		if !modelValue(s.Columns[i], v) {
			return false
		}
	}
	for _, p := range modelPairs(s, values) {
		if len(p.Key) > 32 || len(p.Value) > 64 {
			return false
		}
	}
	return true
}

// modelMade is the row that a pair makes.
func modelMade(s api.Schema, p api.Pair) ([]api.Value, bool) {
	key, keyE := tuple.Decode(p.Key)
	others, othersE := tuple.Decode(p.Value)
	if keyE != api.OK || othersE != api.OK || len(key) < 2 || key[0] != value(s.Name) || key[1] != value(0) {
		return nil, false
	}
	values := slices.Concat(key[2:], others)
	if !modelRow(s, values) || modelPairs(s, values)[0] != p {
		return nil, false
	}
	return values, true
}

func modelAllowed(pairs []api.Pair) bool {
	for i := range pairs {
		for _, q := range pairs[:i] {
			if q.Key >= pairs[i].Key {
				return false
			}
		}
	}
	return true
}

func modelLeads(s api.Schema, number int, columns []api.Column, values []api.Value) bool {
	if len(values) > len(columns) {
		return false
	}
	for i, v := range values {
		if !modelValue(columns[i], v) {
			return false
		}
	}
	return len(modelCode(row(s.Name, number), values)) <= 32
}

func modelOp(s api.Schema, op api.TableOp) bool {
	if op.Kind >= 1 && op.Kind <= 4 && op.Index != 0 {
		return false
	}
	switch op.Kind {
	case 1, 2:
		return modelRow(s, op.Row)
	case 3:
		return len(op.Row) == s.Key && modelLeads(s, 0, s.Columns[:s.Key], op.Row)
	case 4:
		return modelLeads(s, 0, s.Columns[:s.Key], op.Row)
	case 5:
		if op.Index < 0 || op.Index >= len(s.Indexes) {
			return false
		}
		var columns []api.Column
		for _, i := range s.Indexes[op.Index].Columns {
			columns = append(columns, s.Columns[i])
		}
		return modelLeads(s, op.Index+1, columns, op.Row)
	}
	return false
}

// modelOwned are the places of the unique indexes in which none of a row's values is Null.
func modelOwned(s api.Schema, values []api.Value) []int {
	var places []int
	for i, x := range s.Indexes {
		if x.Unique && !slices.Contains(modelValues(values, x.Columns), value(nil)) {
			places = append(places, i)
		}
	}
	return places
}

func modelNeeds(s api.Schema, op api.TableOp) ([]api.Span, api.Errno) {
	if !modelSchema(s) {
		return nil, api.ErrSchema
	}
	if !modelOp(s, op) {
		return nil, api.ErrArg
	}
	under := func(number int, values []api.Value) api.Span {
		lo := modelCode(row(s.Name, number), values)
		return api.Span{Lo: lo, Hi: lo + "\xff"}
	}
	switch op.Kind {
	case 3:
		return []api.Span{pointOf(modelCode(row(s.Name, 0), op.Row))}, api.OK
	case 4:
		return []api.Span{under(0, op.Row)}, api.OK
	case 5:
		return []api.Span{under(op.Index+1, op.Row), under(0, nil)}, api.OK
	}
	own := modelPairs(s, op.Row)
	spans := []api.Span{pointOf(own[0].Key)}
	for _, i := range modelOwned(s, op.Row) {
		spans = append(spans, pointOf(own[1+i].Key))
	}
	return spans, api.OK
}

func modelPlan(s api.Schema, op api.TableOp, pairs []api.Pair) ([]api.Write, api.Errno) {
	if !modelSchema(s) {
		return nil, api.ErrSchema
	}
	if !modelOp(s, op) || op.Kind > 3 || !modelAllowed(pairs) {
		return nil, api.ErrArg
	}
	there := map[string]string{}
	for _, p := range pairs {
		there[p.Key] = p.Value
	}
	key := modelCode(row(s.Name, 0), op.Row[:s.Key])
	stands, has := there[key]
	older, newer := map[string]string{}, map[string]string{}
	if op.Kind == 1 && has {
		return nil, api.ErrTaken
	}
	if op.Kind != 1 {
		if !has {
			return nil, api.ErrRow
		}
		old, makes := modelMade(s, api.Pair{Key: key, Value: stands})
		if !makes {
			return nil, api.ErrTorn
		}
		for _, p := range modelPairs(s, old) {
			older[p.Key] = p.Value
		}
	}
	if op.Kind != 3 {
		own := modelPairs(s, op.Row)
		for _, i := range modelOwned(s, op.Row) {
			if v, has := there[own[1+i].Key]; has && !(op.Kind == 2 && v == modelCode(op.Row[:s.Key])) {
				return nil, api.ErrTaken
			}
		}
		for _, p := range own {
			newer[p.Key] = p.Value
		}
	}
	return modelWrites(older, newer), api.OK
}

func modelWrites(older, newer map[string]string) []api.Write {
	var list []api.Write
	for k, v := range newer {
		if w, has := older[k]; !has || w != v {
			list = append(list, api.Write{Key: k, Value: v})
		}
	}
	for k := range older {
		if _, has := newer[k]; !has {
			list = append(list, api.Write{Key: k, Delete: true})
		}
	}
	slices.SortFunc(list, func(a, b api.Write) int { return strings.Compare(a.Key, b.Key) })
	return list
}

// modelInTable tells whether a key is one of the table's: it begins with the name's code, and no ff follows.
func modelInTable(s api.Schema, key string) bool {
	behind, begins := strings.CutPrefix(key, modelCode(row(s.Name)))
	return begins && !strings.HasPrefix(behind, "\xff")
}

func modelCheck(s api.Schema, pairs []api.Pair) (api.Errno, string) {
	if !modelSchema(s) {
		return api.ErrSchema, ""
	}
	if !modelAllowed(pairs) {
		return api.ErrArg, ""
	}
	there, wanted := map[api.Pair]bool{}, map[api.Pair]bool{}
	for _, p := range pairs {
		there[p] = true
		if values, makes := modelMade(s, p); makes {
			for _, q := range modelPairs(s, values) {
				wanted[q] = true
			}
		}
	}
	var wrong []string
	for p := range there {
		if modelInTable(s, p.Key) && !wanted[p] {
			wrong = append(wrong, p.Key)
		}
	}
	for p := range wanted {
		if !there[p] {
			wrong = append(wrong, p.Key)
		}
	}
	if len(wrong) == 0 {
		return api.OK, ""
	}
	slices.Sort(wrong)
	return api.ErrTorn, wrong[0]
}

func modelRows(s api.Schema, pairs []api.Pair) ([][]api.Value, api.Errno) {
	if e, _ := modelCheck(s, pairs); e != api.OK {
		return nil, e
	}
	var rows [][]api.Value
	for _, p := range pairs {
		if values, makes := modelMade(s, p); makes {
			rows = append(rows, values)
		}
	}
	slices.SortFunc(rows, func(a, b []api.Value) int { return tuple.Compare(a[:s.Key], b[:s.Key]) })
	return rows, api.OK
}

func modelFind(s api.Schema, op api.TableOp, pairs []api.Pair) ([][]api.Value, api.Errno) {
	if !modelSchema(s) {
		return nil, api.ErrSchema
	}
	if !modelOp(s, op) || op.Kind < 4 || !modelAllowed(pairs) {
		return nil, api.ErrArg
	}
	spans, _ := modelNeeds(s, op)
	var rows [][]api.Value
	for _, p := range pairs {
		if p.Key < spans[0].Lo || p.Key >= spans[0].Hi {
			continue
		}
		values, has := modelMade(s, p)
		if op.Kind == 5 {
			values, has = modelOwner(s, op.Index, p, pairs)
		}
		if !has {
			return nil, api.ErrTorn
		}
		rows = append(rows, values)
	}
	return rows, api.OK
}

// modelOwner is the row that a pair of the list makes and of which another pair is the entry.
func modelOwner(s api.Schema, place int, entry api.Pair, pairs []api.Pair) ([]api.Value, bool) {
	for _, p := range pairs {
		if values, makes := modelMade(s, p); makes && modelPairs(s, values)[1+place] == entry {
			return values, true
		}
	}
	return nil, false
}
