package gate

import (
	"math"
	"math/big"
	"math/rand"
	"regexp"
	"strings"
	"testing"

	"tidemark/api"
)

// Limits of DOC.md, told apart from api's constants.
const (
	maxLine  = 400
	topLimit = 1<<63 - 1
)

// lined is an operation and its line.
type lined struct {
	line string
	op   api.Op
}

// theLines are lines of every form of the chapter's table.
func theLines() []lined {
	return []lined{
		{"begin rw %", api.Op{Kind: api.OpBegin}},
		{"begin rw x", api.Op{Kind: api.OpBegin, Token: "x"}},
		{"begin ro %", api.Op{Kind: api.OpBegin, ReadOnly: true}},
		{"begin ro %25", api.Op{Kind: api.OpBegin, ReadOnly: true, Token: "%"}},
		{"begin at %", api.Op{Kind: api.OpBegin, ReadOnly: true, AsOf: true}},
		{"begin at @2", api.Op{Kind: api.OpBegin, ReadOnly: true, AsOf: true, Token: "@2"}},
		{"get %", api.Op{Kind: api.OpGet}},
		{"get k", api.Op{Kind: api.OpGet, Key: "k"}},
		{"get %00%0a%0d%20%25%7f%80%ff", api.Op{Kind: api.OpGet, Key: "\x00\n\r %\x7f\x80\xff"}},
		{"get " + strings.Repeat("k", 100), api.Op{Kind: api.OpGet, Key: strings.Repeat("k", 100)}},
		{"scan % % 0", api.Op{Kind: api.OpScan}},
		{"scan a m 1", api.Op{Kind: api.OpScan, Key: "a", Hi: "m", Limit: 1}},
		{"scan z a 10", api.Op{Kind: api.OpScan, Key: "z", Hi: "a", Limit: 10}},
		{"scan % m 9223372036854775807", api.Op{Kind: api.OpScan, Hi: "m", Limit: topLimit}},
		{"rscan % m 5", api.Op{Kind: api.OpScan, Hi: "m", Limit: 5, Back: true}},
		{"rscan a%20b % 0", api.Op{Kind: api.OpScan, Key: "a b", Back: true}},
		{"put a%20b %", api.Op{Kind: api.OpPut, Key: "a b"}},
		{"put % v", api.Op{Kind: api.OpPut, Value: "v"}},
		{"put put get", api.Op{Kind: api.OpPut, Key: "put", Value: "get"}},
		{"put k " + strings.Repeat("%ff", 100), api.Op{Kind: api.OpPut, Key: "k", Value: strings.Repeat("\xff", 100)}},
		{"del k", api.Op{Kind: api.OpDelete, Key: "k"}},
		{"del %", api.Op{Kind: api.OpDelete}},
		{"commit", api.Op{Kind: api.OpCommit}},
		{"abort", api.Op{Kind: api.OpAbort}},
	}
}

func wantOp(t *testing.T, line string, want api.Op) {
	t.Helper()
	if op, e := Parse(line); op != want || e != api.OK {
		t.Errorf("Parse(%q) = %+v, %d, want %+v", line, op, e, want)
	}
}

func wantNoOp(t *testing.T, lines ...string) {
	t.Helper()
	for _, line := range lines {
		if op, e := Parse(line); op != (api.Op{}) || e != api.ErrRequest {
			t.Errorf("Parse(%.80q) = %+v, %d, want ErrRequest", line, op, e)
		}
	}
}

func wantLine(t *testing.T, op api.Op, want string) {
	t.Helper()
	if line, e := Request(op); line != want || e != api.OK {
		t.Errorf("Request(%+v) = %q, %d, want %q", op, line, e, want)
	}
}

func wantNoLine(t *testing.T, ops ...api.Op) {
	t.Helper()
	for _, op := range ops {
		if line, e := Request(op); line != "" || e != api.ErrRequest {
			t.Errorf("Request(%+v) = %.80q, %d, want ErrRequest", op, line, e)
		}
	}
}

// P21.1, P21.2: every form, both ways.
func TestLinesAndTheirOperations(t *testing.T) {
	for _, l := range theLines() {
		wantOp(t, l.line, l.op)
		wantLine(t, l.op, l.line)
	}
}

// P21.1, P21.2: what the chapter's examples refuse.
func TestRefusalsOfTheExamples(t *testing.T) {
	wantNoLine(t, api.Op{Kind: api.OpBegin, AsOf: true, Token: "x"}, api.Op{Kind: api.OpCommit, Key: "a"}, api.Op{Kind: api.OpScan, Limit: -1}, api.Op{})
	wantNoOp(t, "", "get", "get  a", "get a ", "GET a", "get %61", "scan a b 05", "scan a b 9223372036854775808", "commit now")
}

// P21.1: one blank between each two fields, and nothing else.
func TestWhatStandsBesideTheFields(t *testing.T) {
	for _, l := range theLines() {
		for _, beside := range []string{" ", "  ", "\t", "\r", "\n", "\x00", "\v", "\u00a0", "\ufeff", " %", " x", " 0", " ro"} {
			wantNoOp(t, beside+l.line, l.line+beside)
			for i := range l.line {
				if l.line[i] == ' ' {
					wantNoOp(t, l.line[:i]+beside+l.line[i:], l.line[:i+1]+beside+l.line[i+1:])
				}
			}
		}
		for i := range l.line {
			if l.line[i] == ' ' {
				wantNoOp(t, l.line[:i], l.line[:i+1], l.line[i:], l.line[:i]+l.line[i+1:], l.line[:i]+"\t"+l.line[i+1:])
			}
		}
		wantNoOp(t, "x"+l.line, strings.ToUpper(l.line[:1])+l.line[1:])
	}
}

// P21.1: other names, and other numbers of fields.
func TestWrongLines(t *testing.T) {
	wantNoOp(t,
		" ", "%", "x", "begin", "begin ", "begin rw", "begin rw ", "begin rx %", "begin r %", "begin rwo %", "begin RW %", "begin % rw", "begin %", "begin rw % %", "begin at x y", "begin  rw %", "begin rw  %", "begin rw\t%", "begin%20rw %",
		"beginrw %", "begin at", "begin ro", "rbegin rw %", "get a b", "get", "gets a", "rget a", "scan", "scan a", "scan a b", "scan a b 1 1", "scan a b c", "scan 1 a b", "rscan a b", "rscan a b 1 0", "rrscan a b 1", "Rscan a b 1", "scan 5", "scan a 5",
		"put", "put a", "put a b c", "put  a", "put a  b", "del", "del a b", "delete a", "commit 0", "commit %", "commits", "abort %", "abort now", "wall 5", "tick", "kill", "calm 0", "get 2 a", "begin 2 rw %", "ok", "error request")
}

// P21.1: what is no word, in each place of one.
func TestWordsThatAreNone(t *testing.T) {
	for _, wrong := range []string{"", "%2", "%2F", "%61", "%%", "%%25", "a%", "%zz", "a\x00", "a\x7f", "\x80", "\xff", "\u00e4", "a\tb", "a\n", "%0A", "%25%"} {
		for _, form := range []string{"begin rw W", "begin ro W", "begin at W", "get W", "scan W a 1", "scan a W 1", "rscan W a 1", "rscan a W 1", "put W a", "put a W", "del W"} {
			wantNoOp(t, strings.Replace(form, "W", wrong, 1))
		}
	}
}

// P21.1: the limit is a number from 0 to 2^63 - 1, in one form.
func TestLimits(t *testing.T) {
	for _, name := range []string{"scan", "rscan"} {
		for digits, limit := range map[string]int{"0": 0, "1": 1, "9": 9, "10": 10, "512": 512, "4294967296": 1 << 32, "9223372036854775806": topLimit - 1, "9223372036854775807": topLimit} {
			op := api.Op{Kind: api.OpScan, Key: "a", Hi: "b", Limit: limit, Back: name == "rscan"}
			wantOp(t, name+" a b "+digits, op)
			wantLine(t, op, name+" a b "+digits)
		}
		for _, wrong := range []string{"", "%", "00", "01", "05", "-0", "-1", "+0", "+5", "1_0", "0x1", "1e1", "1.0", "a", "5a", "%35", "٣", "9223372036854775808", "18446744073709551615", "18446744073709551616", "18446744073709551621", "-9223372036854775808", strings.Repeat("9", 300), "0" + strings.Repeat("0", 300)} {
			wantNoOp(t, name+" a b "+wrong)
		}
	}
}

// P21.1, P21.2: a line may have MaxLine bytes, whichever field they are in.
func TestTheLongestLines(t *testing.T) {
	for _, form := range []string{"begin rw W", "begin ro W", "begin at W", "get W", "scan W a 1", "scan a W 1", "rscan W % 9223372036854775807", "rscan % W 0", "put W a", "put a W", "del W"} {
		room := maxLine - len(form) + 1
		for _, fill := range []string{"x", "%20"} {
			word := strings.Repeat(fill, room/len(fill)) + strings.Repeat("y", room%len(fill))
			line := strings.Replace(form, "W", word, 1)
			op, e := Parse(line)
			if e != api.OK || len(line) != maxLine {
				t.Fatalf("Parse(%q) = %+v, %d", line, op, e)
			}
			wantLine(t, op, line)
			wantNoOp(t, strings.Replace(form, "W", word+"z", 1))
			for _, text := range []*string{&op.Token, &op.Key, &op.Hi, &op.Value} {
				if len(*text) > 1 {
					*text += "z"
					wantNoLine(t, op)
				}
			}
		}
	}
	wantNoOp(t, strings.Repeat("x", 1<<20), "get "+strings.Repeat("%20", 1<<20), strings.Repeat(" ", 1<<20))
	long := strings.Repeat(" ", 1<<20)
	wantNoLine(t, api.Op{Kind: api.OpGet, Key: long}, api.Op{Kind: api.OpPut, Key: "a", Value: long}, api.Op{Kind: api.OpBegin, Token: long}, api.Op{Kind: api.OpScan, Hi: long}, api.Op{Key: long})
}

// named tells whether a kind's lines name all fields of an operation that are not zero, and can tell them.
func named(op api.Op) bool {
	begins, scans, puts := op.Kind == api.OpBegin, op.Kind == api.OpScan, op.Kind == api.OpPut
	keyed := scans || puts || op.Kind == api.OpGet || op.Kind == api.OpDelete
	return op.Kind >= 1 && op.Kind <= 7 &&
		(begins || !op.ReadOnly && !op.AsOf && op.Token == "") && (op.ReadOnly || !op.AsOf) &&
		(scans || !op.Back && op.Hi == "" && op.Limit == 0) && op.Limit >= 0 &&
		(keyed || op.Key == "") && (puts || op.Value == "")
}

// P21.2: fields of every kind, those that its lines name and those that they don't.
func TestFieldsThatAKindNames(t *testing.T) {
	yesNo := []bool{false, true}
	texts := []string{"", "%", "a b"}
	taken := 0
	for i := range 11 * 8 * 81 * 5 {
		pick := func(n int) int { k := i % n; i /= n; return k }
		op := api.Op{Kind: api.OpKind(pick(11) - 1), ReadOnly: yesNo[pick(2)], AsOf: yesNo[pick(2)], Back: yesNo[pick(2)], Token: texts[pick(3)], Key: texts[pick(3)], Hi: texts[pick(3)], Value: texts[pick(3)], Limit: []int{0, 7, topLimit, -1, math.MinInt}[pick(5)]}
		if !named(op) {
			wantNoLine(t, op)
			continue
		}
		taken++
		line, e := Request(op)
		if e != api.OK {
			t.Fatalf("Request(%+v) = %d", op, e)
		}
		wantOp(t, line, op)
	}
	if taken < 80 {
		t.Errorf("%d operations were taken", taken)
	}
	wantNoLine(t, api.Op{Kind: math.MaxInt}, api.Op{Kind: math.MinInt}, api.Op{Kind: api.OpGet + 1<<32, Key: "a"})
}

// forms are those of the chapter's table, W for a word and N for a number.
const forms = `^(?:(begin) (rw|ro|at) (W)|(get) (W)|(scan) (W) (W) (N)|(rscan) (W) (W) (N)|(put) (W) (W)|(del) (W)|(commit)|(abort))$`

var (
	pattern = regexp.MustCompile(strings.NewReplacer("W", `%|(?:[!-$&-~]|%[01][0-9a-f]|%2[05]|%7f|%[89a-f][0-9a-f])+`, "N", `0|[1-9][0-9]*`).Replace(forms))
	written = regexp.MustCompile(`%[0-9a-f]{2}`)
)

// plainText is the text of what is a word.
func plainText(word string) string {
	if word == "%" {
		return ""
	}
	return written.ReplaceAllStringFunc(word, func(s string) string {
		n, _ := new(big.Int).SetString(s[1:], 16)
		return string([]byte{byte(n.Int64())})
	})
}

// plainParse is Parse by the chapter's table, as a pattern.
func plainParse(line string) (api.Op, bool) {
	if len(line) > maxLine {
		return api.Op{}, false
	}
	var f []string
	for _, part := range pattern.FindStringSubmatch(line) {
		if part != "" {
			f = append(f, part)
		}
	}
	if len(f) == 0 {
		return api.Op{}, false
	}
	f = f[1:]
	switch f[0] {
	case "begin":
		return api.Op{Kind: api.OpBegin, ReadOnly: f[1] != "rw", AsOf: f[1] == "at", Token: plainText(f[2])}, true
	case "get":
		return api.Op{Kind: api.OpGet, Key: plainText(f[1])}, true
	case "scan", "rscan":
		n, _ := new(big.Int).SetString(f[3], 10)
		if !n.IsInt64() {
			return api.Op{}, false
		}
		return api.Op{Kind: api.OpScan, Key: plainText(f[1]), Hi: plainText(f[2]), Limit: int(n.Int64()), Back: f[0] == "rscan"}, true
	case "put":
		return api.Op{Kind: api.OpPut, Key: plainText(f[1]), Value: plainText(f[2])}, true
	case "del":
		return api.Op{Kind: api.OpDelete, Key: plainText(f[1])}, true
	case "commit":
		return api.Op{Kind: api.OpCommit}, true
	}
	return api.Op{Kind: api.OpAbort}, true
}

// anyLine draws a line: fields of which most are right, and sometimes a byte that is wrong.
func anyLine(r *rand.Rand) string {
	one := func(list ...string) string { return list[r.Intn(len(list))] }
	word := func() string {
		return one("%", "a", "k1", "%20", "a%0ab", "%25", "%61", "%2", "", "x%ff", "0", "7", strings.Repeat("w", r.Intn(410)), strings.Repeat("%00", r.Intn(135)))
	}
	number := func() string {
		return one("0", "1", "12", "05", "-1", "9223372036854775807", "9223372036854775808", "18446744073709551616", "", "x")
	}
	line := one("begin rw W", "begin ro W", "begin at W", "begin W W", "get W", "scan W W N", "rscan W W N", "put W W", "del W", "commit", "abort", "W", "W W", "get W W", "scan W W")
	for strings.Contains(line, "W") {
		line = strings.Replace(line, "W", word(), 1)
	}
	line = strings.Replace(line, "N", number(), 1)
	if n := len(line); n > 0 && r.Intn(3) == 0 {
		i := r.Intn(n)
		some := one("", " ", "%", "\r", "\x00", "\xff", "a", line[i:i+1]+line[i:i+1])
		line = line[:i] + some + line[i+1:]
	}
	return line
}

// P21.1, P21.2: drawn lines beside the pattern; a line that is taken is the line of its operation.
func TestLinesBesideThePattern(t *testing.T) {
	r := rand.New(rand.NewSource(1))
	taken := 0
	for range 40000 {
		line := anyLine(r)
		want, there := plainParse(line)
		if !there {
			wantNoOp(t, line)
			continue
		}
		taken++
		wantOp(t, line, want)
		wantLine(t, want, line)
	}
	if taken < 5000 || taken > 35000 {
		t.Errorf("%d lines of 40000 were taken: the draw is too poor", taken)
	}
}

// FuzzParse: P21.1 and P21.2, at any text.
func FuzzParse(f *testing.F) {
	for _, l := range theLines() {
		f.Add(l.line)
	}
	f.Fuzz(func(t *testing.T, line string) {
		want, there := plainParse(line)
		if !there {
			wantNoOp(t, line)
			return
		}
		wantOp(t, line, want)
		wantLine(t, want, line)
	})
}
