package tuple

import (
	"math"
	"slices"
	"strconv"
	"strings"
	"testing"

	"tidemark/api"
)

// wantTold holds a text and a tuple to be those of one another.
func wantTold(t *testing.T, text string, list ...api.Value) {
	t.Helper()
	if got, e := Text(list); got != text || e != api.OK {
		t.Errorf("Text(%v) = %q, %d, want %q", list, got, e, text)
	}
	if got, e := Parse(text); !slices.Equal(got, list) || e != api.OK {
		t.Errorf("Parse(%q) = %v, %d, want %v", text, got, e, list)
	}
}

func wantNoText(t *testing.T, list ...string) {
	t.Helper()
	for _, text := range list {
		if got, e := Parse(text); len(got) != 0 || e != api.ErrTuple {
			t.Errorf("Parse(%.99q) = %d values, %d", text, len(got), e)
		}
	}
}

// P25.8, P25.9: the chapter's examples.
func TestTextsOfTheExamples(t *testing.T) {
	wantTold(t, "")
	wantTold(t, "null", null())
	wantTold(t, "false", flag(false))
	wantTold(t, "true", flag(true))
	wantTold(t, "0", number(0))
	wantTold(t, "255", number(255))
	wantTold(t, "9223372036854775807", number(math.MaxInt64))
	wantTold(t, "-1", number(-1))
	wantTold(t, "-9223372036854775808", number(math.MinInt64))
	wantTold(t, "'%", word(""))
	wantTold(t, "'a", word("a"))
	wantTold(t, "'a%00b", word("a\x00b"))
	wantTold(t, "'a 5 null", word("a"), number(5), null())
	wantNoText(t, " 1", "1  2", "01", "-0", "+1", "9223372036854775808", "'", "'%61", "a", "NULL")
}

// P25.8, P25.9: texts that look like something else.
func TestTextsOfTexts(t *testing.T) {
	wantTold(t, "'%20", word(" "))
	wantTold(t, "'a%20b 'c", word("a b"), word("c"))
	wantTold(t, "'%25", word("%"))
	wantTold(t, "''", word("'"))
	wantTold(t, "''%25", word("'%"))
	wantTold(t, "'null null '5 5 'true true", word("null"), null(), word("5"), number(5), word("true"), flag(true))
	wantTold(t, "'!~%7f%80%ff%0a", word("!~\x7f\x80\xff\n"))
	wantTold(t, "'"+strings.Repeat("%e4%b8%ad", 9), word(strings.Repeat("中", 9)))
	wantNoText(t, "'%%", "'%2", "'a%", "'%0A", "'%7e", "'%21", "'\x00", "'\n", "'\x7f", "'\xff", "'中", "''%", "'%'", "'% '", "' 'a", "'a '", "\"a\"", "`a")
}

// P25.9: blanks, and what is no blank.
func TestBlanks(t *testing.T) {
	wantNoText(t, " ", "  ", "1 ", " null", "null ", "1  2", "1   2", "1\t2", "1\n2", "1\n", "\n", "1\u00a02", "'a  'b", "'a ", " 'a", "1,2", "1, 2", "\x00", "1\x00")
	list := make([]api.Value, 50000)
	many := strings.Repeat("null ", len(list))
	wantNoText(t, many, " "+many[:len(many)-1], strings.Repeat(" ", len(list)))
	many = many[:len(many)-1]
	if text, e := Text(list); text != many || e != api.OK {
		t.Errorf("the text of many nulls is another one, %d", e)
	}
	if got, e := Parse(many); !slices.Equal(got, list) || e != api.OK {
		t.Errorf("many nulls are read as %d others, %d", len(got), e)
	}
}

// P25.9: what is no integer, and none that 64 bits with a sign hold.
func TestNumbers(t *testing.T) {
	wantTold(t, "10 -10 100 -100", number(10), number(-10), number(100), number(-100))
	wantTold(t, "9223372036854775806 -9223372036854775807", number(math.MaxInt64-1), number(-math.MaxInt64))
	wantNoText(t, "00", "-00", "-01", "+0", "+5", "--1", "-", "+", "- 1", "1-", "1.0", "1.", ".5", "1e3", "0x1f", "0b1", "0o7", "1_000", "1_0", "_1", "0_1", "12a", "a12", "٣", "１", "-+1", "1 01", "01 1",
		"9223372036854775808", "-9223372036854775809", "9999999999999999999", "18446744073709551615", "18446744073709551616", "18446744073709551617", "-18446744073709551616", "340282366920938463463374607431768211456", strings.Repeat("9", 4000), "-"+strings.Repeat("1", 4000), strings.Repeat("0", 4000), "inf", "NaN")
}

// P25.9: the three names, as they must not be.
func TestNames(t *testing.T) {
	for _, name := range []string{"null", "false", "true"} {
		for i := range name {
			wantNoText(t, name[:i]+name[i+1:], name[:i]+strings.ToUpper(name[i:i+1])+name[i+1:], name[:i]+" "+name[i:]+" ", name[:i]+name[i:i+1]+name[i:])
		}
		wantNoText(t, strings.ToUpper(name), name+name, name+"1", "1"+name, name+"'", name+"%", "%"+name, "-"+name)
	}
	wantNoText(t, "nil", "yes", "no", "t", "f", "T", "F", "none", "%", "%00", "a", "NULL")
}

// P25.8, P25.9: drawn tuples, beside the model.
func TestDrawnTexts(t *testing.T) {
	seen := map[string]int{}
	for seed := range int64(30000) {
		list := newDice(seed).anyTuple()
		want, wantE := modelText(list)
		text, e := Text(list)
		if text != want || e != wantE {
			t.Fatalf("seed %d: Text(%v) = %q, %d, want %q, %d", seed, list, text, e, want, wantE)
		}
		seen["status "+strconv.Itoa(int(e))]++
		if e != api.OK {
			continue
		}
		if got, e := Parse(text); !slices.Equal(got, list) || e != api.OK {
			t.Fatalf("seed %d: Parse(%q) = %v, %d, want %v", seed, text, got, e, list)
		}
	}
	wantSeen(t, seen, "status 0", "status "+strconv.Itoa(int(api.ErrArg)))
}

func wantParsedAsByModel(t *testing.T, text string) api.Errno {
	t.Helper()
	want, wantE := modelParse(text)
	got, e := Parse(text)
	if !slices.Equal(got, want) || e != wantE {
		t.Fatalf("Parse(%q) = %v, %d, want %v, %d", text, got, e, want, wantE)
	}
	if e != api.OK {
		return e
	}
	if back, f := Text(got); back != text || f != api.OK {
		t.Fatalf("Parse(%q) = %v, whose text is %q", text, got, back)
	}
	return e
}

// P25.9: drawn texts, like those of a tuple, beside the model.
func TestDrawnLines(t *testing.T) {
	seen := map[string]int{}
	for seed := range int64(60000) {
		d := newDice(seed)
		text, _ := Text(d.tuple())
		for range 1 + d.Intn(2) {
			text = d.spoiltText(text)
		}
		if wantParsedAsByModel(t, text) == api.OK {
			seen["a tuple"]++
		} else {
			seen["no tuple"]++
		}
	}
	wantSeen(t, seen, "a tuple", "no tuple")
}

// P25.9: any text.
func FuzzParse(f *testing.F) {
	for seed := range int64(20) {
		text, _ := Text(newDice(seed).tuple())
		f.Add(text)
	}
	f.Fuzz(func(t *testing.T, text string) { wantParsedAsByModel(t, text) })
}
