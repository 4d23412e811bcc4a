package table

import (
	"errors"
	"slices"
	"strconv"
	"strings"

	"tidemark/api"
)

// The words with which lines begin.
const (
	tableWord  = "table"
	columnWord = "column"
	keyWord    = "key"
	indexWord  = "index"
	uniqueWord = "unique"
)

const (
	blank   = " "
	lineEnd = "\n"
	mayNull = "?" // behind the kind of a column that may be Null
)

// kindWords are the words of the columns' kinds. ValNull, which is none, has the empty one.
var kindWords = [...]string{api.ValNull: "", api.ValBool: "bool", api.ValInt: "int", api.ValText: "text"}

// errNoSchema is what the reader gives up with, however deep inside it is.
var errNoSchema = errors.New("the text is no schema's")

// gaveUp tells whether the reader gave a text up. Any other panic is no fault of the text: hiding it would spoil the answer.
func gaveUp(recovered any) bool {
	if recovered == nil {
		return false
	}
	if recovered != errNoSchema {
		panic(recovered)
	}
	return true
}

// must gives the text up, unless what has to hold of it holds.
func must(holds bool) {
	if !holds {
		panic(errNoSchema)
	}
}

// lineKind is a kind of line: the words with which one may begin, how all those of a schema are written, and how one adds to a schema what it says. A line is told as its words.
type lineKind struct {
	begins []string
	write  func(s api.Schema) [][]string
	read   func(s *api.Schema, line []string)
}

// lineKinds gives the kinds in the order in which a text has their lines. The functions stand in here: the language's rules keep tables of functions off the package level.
func lineKinds() [4]lineKind {
	return [...]lineKind{
		{
			begins: []string{tableWord},
			write:  func(s api.Schema) [][]string { return [][]string{{tableWord, s.Name}} },
			read: func(s *api.Schema, line []string) {
				must(len(line) == 2)
				s.Name = line[1]
			},
		},
		{
			begins: []string{columnWord},
			write: func(s api.Schema) (lines [][]string) {
				for _, c := range s.Columns {
					lines = append(lines, []string{columnWord, c.Name, wordOfKind(c)})
				}
				return lines
			},
			read: func(s *api.Schema, line []string) {
				must(len(line) == 3 && len(s.Columns) < api.MaxColumns) // the reader looks columns up one by one
				kind, null := strings.CutSuffix(line[2], mayNull)
				s.Columns = append(s.Columns, api.Column{Name: line[1], Kind: kindOfWord(kind), Null: null})
			},
		},
		{
			begins: []string{keyWord},
			write:  func(s api.Schema) [][]string { return [][]string{{keyWord, strconv.Itoa(s.Key)}} },
			read: func(s *api.Schema, line []string) {
				must(len(line) == 2)
				n, err := strconv.Atoi(line[1])
				must(err == nil)
				s.Key = n
			},
		},
		{
			begins: []string{indexWord, uniqueWord},
			write: func(s api.Schema) (lines [][]string) {
				for _, x := range s.Indexes {
					lines = append(lines, append([]string{wordOfIndex(x), x.Name}, namesAt(s, x.Columns)...))
				}
				return lines
			},
			read: func(s *api.Schema, line []string) {
				must(len(line) >= 2)
				s.Indexes = append(s.Indexes, api.Index{Name: line[1], Columns: placesOf(*s, line[2:]), Unique: line[0] == uniqueWord})
			},
		},
	}
}

func wordOfKind(c api.Column) string {
	if c.Null {
		return kindWords[c.Kind] + mayNull
	}
	return kindWords[c.Kind]
}

func kindOfWord(word string) api.ValueKind {
	for kind, w := range kindWords {
		if w == word {
			return api.ValueKind(kind)
		}
	}
	panic(errNoSchema)
}

func wordOfIndex(x api.Index) string {
	if x.Unique {
		return uniqueWord
	}
	return indexWord
}

// namesAt gives the names of the columns at some places.
func namesAt(s api.Schema, places []int) []string {
	var names []string
	for _, i := range places {
		names = append(names, s.Columns[i].Name)
	}
	return names
}

// placesOf gives the places of the columns of some names.
func placesOf(s api.Schema, names []string) []int {
	var places []int
	for _, name := range names {
		i := slices.IndexFunc(s.Columns, func(c api.Column) bool { return c.Name == name })
		must(i >= 0)
		places = append(places, i)
	}
	return places
}

// Text gives a schema's text (P26.1).
func Text(s api.Schema) (string, api.Errno) {
	if !mayBe(s) {
		return "", api.ErrSchema
	}
	var text strings.Builder
	for _, kind := range lineKinds() {
		for _, line := range kind.write(s) {
			text.WriteString(strings.Join(line, blank) + lineEnd)
		}
	}
	return text.String(), api.OK
}

// Parse gives the schema of a text (P26.1). What the reader makes of a text is taken if this is its text: so the reader need not mind the lines' order, blanks and zeros.
func Parse(text string) (s api.Schema, e api.Errno) {
	defer func() {
		if gaveUp(recover()) {
			s, e = api.Schema{}, api.ErrSchema
		}
	}()
	for line := range strings.SplitSeq(strings.TrimSuffix(text, lineEnd), lineEnd) {
		readLine(&s, strings.Split(line, blank))
	}
	back, e := Text(s)
	must(e == api.OK && back == text)
	return s, api.OK
}

func readLine(s *api.Schema, line []string) {
	for _, kind := range lineKinds() {
		if slices.Contains(kind.begins, line[0]) {
			kind.read(s, line)
			return
		}
	}
	panic(errNoSchema)
}
