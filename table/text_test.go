package table

import (
	"math"
	"strconv"
	"strings"
	"testing"

	"tidemark/api"
)

// wantSchema holds a text and a schema to be those of one another.
func wantSchema(t *testing.T, text string, s api.Schema) {
	t.Helper()
	if got, e := Text(s); got != text || e != api.OK {
		t.Errorf("Text of %v = %q, %d, want %q", s, got, e, text)
	}
	if got, e := Parse(text); !sameSchema(got, s) || e != api.OK {
		t.Errorf("Parse of %q = %v, %d, want %v", text, got, e, s)
	}
}

func wantNoSchema(t *testing.T, texts ...string) {
	t.Helper()
	for i, text := range texts {
		if s, e := Parse(text); !sameSchema(s, api.Schema{}) || e != api.ErrSchema {
			t.Errorf("text %d: Parse = %v, %d", i, s, e)
		}
	}
}

// wantInvalid holds every call to refuse a schema, ahead of all else.
func wantInvalid(t *testing.T, name string, s api.Schema) {
	t.Helper()
	unruly := []api.Pair{{Key: "b"}, {Key: "a"}}
	text, e1 := Text(s)
	span, e2 := Span(s)
	pairs, e3 := Entries(s, nil)
	spans, e4 := Needs(s, api.TableOp{Kind: 9})
	writes, e5 := Plan(s, api.TableOp{Kind: api.TabSelect}, unruly)
	found, e6 := Find(s, api.TableOp{Kind: api.TabInsert}, unruly)
	all, e7 := Rows(s, unruly)
	e8, key := Check(s, unruly)
	for i, e := range []api.Errno{e1, e2, e3, e4, e5, e6, e7, e8} {
		if e != api.ErrSchema {
			t.Errorf("%s: call %d answers %d", name, i, e)
		}
	}
	if text != "" || key != "" || span != (api.Span{}) || len(pairs)+len(spans)+len(writes)+len(found)+len(all) != 0 {
		t.Errorf("%s: something is answered beside the error", name)
	}
}

// P26.1: the chapter's examples.
func TestTextsOfTheExamples(t *testing.T) {
	wantSchema(t, peopleText, people())
	for _, c := range []struct{ old, new string }{
		{"table p", "table  p"}, {"column id", "column  id"}, {"id int", "id  int"}, {"unique mail mail", "unique mail  mail"},
		{"key 1\nunique mail mail\nindex age age\n", "index age age\nunique mail mail\nkey 1\n"}, {"age age\n", "age age"},
		{"key 1", "key 0"}, {"key 1", "key 01"}, {"key 1", "key 4"}, {"column id int", "column id int?"}, {"index age age", "index age old"}, {"unique mail mail", "unique mail age mail mail"},
	} {
		text := strings.Replace(peopleText, c.old, c.new, 1)
		if text == peopleText {
			t.Errorf("nothing has become of %q", c.old)
		}
		wantNoSchema(t, text)
	}
}

func kindOfLine(line string) string {
	return strings.Replace(strings.Fields(line)[0], "unique", "index", 1)
}

// P26.1: each line left out, there twice, at another line's place, with a blank or a field too many, and cut short.
func TestEachLine(t *testing.T) {
	lines := strings.SplitAfter(strings.TrimSuffix(peopleText, "\n"), "\n")
	lines[len(lines)-1] += "\n"
	with := func(i int, line ...string) string {
		return strings.Join(lines[:i], "") + strings.Join(line, "") + strings.Join(lines[i+1:], "")
	}
	for i, line := range lines {
		bare := strings.TrimSuffix(line, "\n")
		if begin := strings.Fields(line)[0]; begin == "table" || begin == "key" {
			wantNoSchema(t, with(i))
		}
		wantNoSchema(t, with(i, line, line), with(i, bare), with(i, " ", line), with(i, bare, " \n"), with(i, line, "\n"), with(i, "\n", line), with(i, bare, "\r\n"), with(i, bare, "\t\n"), with(i, bare, "??\n"))
		wantNoSchema(t, with(i, bare, " a\n"), with(i, strings.ReplaceAll(line, " ", "\t")), with(i, strings.ToUpper(line)), with(i, "x", line), with(i, strings.ReplaceAll(line, " ", "")))
		for size := range len(bare) {
			text := with(i, bare[:size], "\n")
			if s, e := Parse(text); e == api.OK { // a shorter name
				wantSchema(t, text, s)
			}
		}
		for j := range i {
			text := strings.Join(lines[:j], "") + line + strings.Join(lines[j:i], "") + strings.Join(lines[i+1:], "")
			if s, e := Parse(text); e == api.OK { // two columns, or two indexes
				wantSchema(t, text, s)
				if a, b := kindOfLine(lines[j]), kindOfLine(line); a != b {
					t.Errorf("Parse of %q, with a line %s ahead of a line %s, is taken", text, b, a)
				}
			}
		}
	}
	wantNoSchema(t, "", "\n", " ", "\n\n", peopleText+"\n", "\n"+peopleText, peopleText+peopleText, peopleText+" ", peopleText+"x", peopleText+"x\n", "table\n", "key 1\n", "column\n", "index\n", "unique\n")
}

// P26.1: the words of kinds, of numbers and of names.
func TestEachField(t *testing.T) {
	for kind, word := range []string{api.ValBool: "bool", api.ValInt: "int", api.ValText: "text"} {
		if kind == 0 {
			continue
		}
		column := api.Column{Name: "b", Kind: api.ValueKind(kind)}
		wantSchema(t, "table a\ncolumn b "+word+"\nkey 1\n", api.Schema{Name: "a", Columns: []api.Column{column}, Key: 1})
		column.Name, column.Null = "c", true
		wantSchema(t, "table a\ncolumn b bool\ncolumn c "+word+"?\nkey 1\n", api.Schema{Name: "a", Columns: []api.Column{{Name: "b", Kind: api.ValBool}, column}, Key: 1})
	}
	for _, word := range []string{"", "?", "null", "null?", "int??", "?int", "Int", "INT", "integer", "in", "text? ", " text", "bool bool", "1", "2", "3", "0"} {
		wantNoSchema(t, "table a\ncolumn b int\ncolumn c "+word+"\nkey 1\n")
	}
	for _, number := range []string{"", "0", "-1", "+1", "01", "1.0", "1e0", "0x1", "2", "9", "1_0", "18446744073709551617", "9223372036854775808", "one", " 1", "1 ", "\xd9\xa1"} {
		wantNoSchema(t, "table a\ncolumn b int\nkey "+number+"\n")
	}
	for _, name := range []string{"", "A", "aA", "a1", "1", "a_", "a-b", "a.b", "a b", "\xc3\xa4", "\xe4", "\x00", "a\x00", "`", "{", "abcdefghi", strings.Repeat("a", 100)} {
		wantNoSchema(t, "table "+name+"\ncolumn b int\nkey 1\n", "table a\ncolumn "+name+" int\nkey 1\n", "table a\ncolumn b int\nkey 1\nindex "+name+" b\n", "table a\ncolumn b int\nkey 1\nindex c "+name+"\n")
	}
	for _, name := range []string{"table", "column", "key", "index", "unique", "int", "a", "z", "az"} {
		wantSchema(t, "table a\ncolumn "+name+" int\nkey 1\nindex "+name+" "+name+"\n",
			api.Schema{Name: "a", Columns: []api.Column{{Name: name, Kind: api.ValInt}}, Key: 1, Indexes: []api.Index{{Name: name, Columns: []int{0}}}})
	}
	wantSchema(t, "table abcdef\ncolumn abcdefgh int\nkey 1\nunique zyxwvuts abcdefgh\n",
		api.Schema{Name: "abcdef", Columns: []api.Column{{Name: "abcdefgh", Kind: api.ValInt}}, Key: 1, Indexes: []api.Index{{Name: "zyxwvuts", Columns: []int{0}, Unique: true}}})
	wantNoSchema(t, "table abcdefg\ncolumn b int\nkey 1\n")
}

// broadest is a schema with as much of everything as there may be.
func broadest() api.Schema {
	s := api.Schema{Name: "zzzzzz", Key: 8}
	for i := range 8 {
		s.Columns = append(s.Columns, api.Column{Name: strings.Repeat(string(rune('a'+i)), 8), Kind: api.ValBool})
	}
	for i := range 4 {
		s.Indexes = append(s.Indexes, api.Index{Name: strings.Repeat(string(rune('s'+i)), 8), Columns: []int{7, 6, 5, 4, 3, 2, 1, 0}, Unique: i%2 == 0})
	}
	return s
}

// P26.1: as much as there may be, and one more.
func TestAsMuchAsThereMayBe(t *testing.T) {
	s := broadest()
	text, e := Text(s)
	if back, parseE := Parse(text); e != api.OK || parseE != api.OK || !sameSchema(back, s) {
		t.Errorf("the broadest schema: Text %d, Parse %d: %v", e, parseE, back)
	}
	nine := "column aaaaaaaa bool\n"
	wantNoSchema(t, strings.Replace(text, nine, nine+"column i bool\n", 1), text+"index v aaaaaaaa\n", strings.Replace(text, "key 8", "key 9", 1), strings.Replace(text, "aaaaaaaa\n", "aaaaaaaa hhhhhhhh\n", 1))
	for n := range 10 {
		got, e := Text(api.Schema{Name: "a", Columns: s.Columns, Key: n})
		if may := n >= 1 && n <= 8; may != (e == api.OK) || may && !strings.HasSuffix(got, "key "+strconv.Itoa(n)+"\n") {
			t.Errorf("with Key %d: Text = %q, %d", n, got, e)
		}
	}
	many := strings.Repeat("column a int\n", 100000)
	wantNoSchema(t, "table a\n"+many+"key 1\n"+strings.Repeat("index a"+strings.Repeat(" a", 1000)+"\n", 1000), "table a\ncolumn a int\nkey 1\n"+strings.Repeat("index a a\n", 100000), strings.Repeat("a", 1<<20), strings.Repeat(" ", 1<<20), strings.Repeat("\n", 1<<20))
}

// P26.1 and what is said of all calls: a schema with one thing wrong.
func TestSchemasThatAreNotValid(t *testing.T) {
	for name, spoil := range map[string]func(s *api.Schema){
		"no name":                   func(s *api.Schema) { s.Name = "" },
		"a name too long":           func(s *api.Schema) { s.Name = "abcdefg" },
		"a name of other letters":   func(s *api.Schema) { s.Name = "P" },
		"a name with a digit":       func(s *api.Schema) { s.Name = "p1" },
		"a name with a line's end":  func(s *api.Schema) { s.Name = "p\n" },
		"no columns":                func(s *api.Schema) { s.Columns, s.Indexes = nil, nil },
		"no columns and no key":     func(s *api.Schema) { s.Columns, s.Indexes, s.Key = nil, nil, 0 },
		"nine columns":              func(s *api.Schema) { s.Columns = append(s.Columns, broadest().Columns[:6]...) },
		"a column without a name":   func(s *api.Schema) { s.Columns[1].Name = "" },
		"a column's name too long":  func(s *api.Schema) { s.Columns[1].Name = "abcdefghi" },
		"a column of other letters": func(s *api.Schema) { s.Columns[2].Name = "\xe1" },
		"columns alike":             func(s *api.Schema) { s.Columns[2].Name = "id" },
		"a column of nulls":         func(s *api.Schema) { s.Columns[2].Kind = api.ValNull },
		"a column of kind 4":        func(s *api.Schema) { s.Columns[2].Kind = 4 },
		"a column of kind -1":       func(s *api.Schema) { s.Columns[2].Kind = -1 },
		"a column of a great kind":  func(s *api.Schema) { s.Columns[2].Kind = math.MaxInt },
		"the key may be Null":       func(s *api.Schema) { s.Columns[0].Null = true },
		"a key column may be Null":  func(s *api.Schema) { s.Key = 3 },
		"no key":                    func(s *api.Schema) { s.Key = 0 },
		"a key below 0":             func(s *api.Schema) { s.Key = math.MinInt },
		"a key of four columns":     func(s *api.Schema) { s.Key = 4 },
		"a great key":               func(s *api.Schema) { s.Key = math.MaxInt },
		"an index without a name":   func(s *api.Schema) { s.Indexes[0].Name = "" },
		"an index's name too long":  func(s *api.Schema) { s.Indexes[0].Name = "abcdefghi" },
		"an index of other letters": func(s *api.Schema) { s.Indexes[1].Name = "a e" },
		"indexes alike":             func(s *api.Schema) { s.Indexes[1].Name = "mail" },
		"an index of no columns":    func(s *api.Schema) { s.Indexes[1].Columns = nil },
		"an index of a column 3":    func(s *api.Schema) { s.Indexes[1].Columns = []int{3} },
		"an index of a column -1":   func(s *api.Schema) { s.Indexes[1].Columns = []int{0, -1} },
		"a column twice":            func(s *api.Schema) { s.Indexes[1].Columns = []int{1, 2, 1} },
		"all columns and one more":  func(s *api.Schema) { s.Indexes[1].Columns = []int{0, 1, 2, 0} },
		"five indexes": func(s *api.Schema) {
			s.Indexes = nil
			for _, name := range []string{"a", "b", "c", "d", "e"} {
				s.Indexes = append(s.Indexes, api.Index{Name: name, Columns: []int{0}})
			}
		},
	} {
		s := people()
		spoil(&s)
		wantInvalid(t, name, s)
	}
	wantInvalid(t, "the zero schema", api.Schema{})
	wantInvalid(t, "long lists", api.Schema{Name: strings.Repeat("a", 1<<20), Columns: make([]api.Column, 1<<20), Key: 1 << 20, Indexes: make([]api.Index, 1<<20)})
	s := people()
	s.Indexes[0].Columns = make([]int, 1<<20)
	wantInvalid(t, "an index of many columns", s)
}

func wantAsParsedByModel(t *testing.T, text string) api.Errno {
	t.Helper()
	want, wantE := modelParse(text)
	got, e := Parse(text)
	if !sameSchema(got, want) || e != wantE {
		t.Fatalf("Parse(%q) = %v, %d, want %v, %d", text, got, e, want, wantE)
	}
	if e != api.OK {
		return e
	}
	if back, e := Text(got); back != text || e != api.OK {
		t.Fatalf("Parse(%q) = %v, whose text is %q, %d", text, got, back, e)
	}
	return e
}

// P26.1: drawn schemas and texts, beside the model.
func TestDrawnTexts(t *testing.T) {
	seen := map[string]int{}
	for seed := range int64(20000) {
		d := newDice(seed)
		s := d.schema()
		if seed%2 == 0 {
			s = d.spoiltSchema(s)
		}
		want, wantE := modelText(s)
		text, e := Text(s)
		if text != want || e != wantE {
			t.Fatalf("seed %d: Text(%v) = %q, %d, want %q, %d", seed, s, text, e, want, wantE)
		}
		seen["schema "+strconv.Itoa(int(e))]++
		if e != api.OK {
			wantInvalid(t, "drawn", s)
			continue
		}
		if back, e := Parse(text); !sameSchema(back, s) || e != api.OK {
			t.Fatalf("seed %d: Parse(%q) = %v, %d, want %v", seed, text, back, e, s)
		}
		for range 1 + d.Intn(2) {
			text = d.spoiltText(text)
		}
		seen["text "+strconv.Itoa(int(wantAsParsedByModel(t, text)))]++
	}
	wantSeen(t, seen, "schema 0", "schema 260", "text 0", "text 260")
}

// P26.1: any text.
func FuzzParse(f *testing.F) {
	f.Add(peopleText)
	for seed := range int64(20) {
		text, _ := Text(newDice(seed).schema())
		f.Add(text)
	}
	f.Fuzz(func(t *testing.T, text string) { wantAsParsedByModel(t, text) })
}
