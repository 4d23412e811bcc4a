package backup

import (
	"slices"
	"strconv"
	"strings"
	"testing"

	"tidemark/api"
)

func at(wall uint64, logical, node uint32) api.Stamp {
	return api.Stamp{Wall: wall, Logical: logical, Node: node}
}

// pairsOf gives the pairs "k=v", one a text.
func pairsOf(told ...string) []api.Pair {
	var list []api.Pair
	for _, text := range told {
		key, value, _ := strings.Cut(text, "=")
		list = append(list, api.Pair{Key: key, Value: value})
	}
	return list
}

// two is the chapter's first backup.
const two = "tidemark backup 1\nat 5.0.2\npairs 2\nput a 1\nput b %\n"

func wantWrite(t *testing.T, what string, s api.Stamp, pairs []api.Pair, want string) {
	t.Helper()
	if got, e := Write(s, pairs); got != want || e != api.OK {
		t.Errorf("%s: Write gives %q, %d, want %q", what, got, e, want)
	}
	wantRead(t, what, want, s, pairs)
}

func wantRead(t *testing.T, what, text string, s api.Stamp, pairs []api.Pair) {
	t.Helper()
	if got, list, e := Read(text); got != s || !slices.Equal(list, pairs) || e != api.OK {
		t.Errorf("%s: Read gives %v, %q, %d, want %v, %q", what, got, list, e, s, pairs)
	}
}

func wantNoBackup(t *testing.T, what string, texts ...string) {
	t.Helper()
	for _, text := range texts {
		if s, list, e := Read(text); s != (api.Stamp{}) || len(list) != 0 || e != api.ErrBackup {
			t.Errorf("%s: Read(%q) gives %v, %q, %d", what, text, s, list, e)
		}
	}
}

// P20.1, P20.2: the chapter's examples, and the edges of what may be written.
func TestTexts(t *testing.T) {
	wantWrite(t, "the example", at(5, 0, 2), pairsOf("a=1", "b="), two+"sum adfde9a2\n")
	wantWrite(t, "nothing", at(0, 0, 0), nil, summed("tidemark backup 1\nat 0.0.0\npairs 0\n"))
	wantWrite(t, "an empty list", at(0, 0, 0), []api.Pair{}, summed("tidemark backup 1\nat 0.0.0\npairs 0\n"))
	wantWrite(t, "the last stamp", at(topWall-1, topSmall, topSmall), nil, summed("tidemark backup 1\nat 18446744073709551614.4294967295.4294967295\npairs 0\n"))
	wantWrite(t, "words", at(1, 0, 0), pairsOf("\x00=a b", " =%", "%=\n", "a=\xff", "a\x00=", "put=sum", "\x7f=\x80", "\x80=~!"),
		summed("tidemark backup 1\nat 1.0.0\npairs 8\nput %00 a%20b\nput %20 %25\nput %25 %0a\nput a %ff\nput a%00 %\nput put sum\nput %7f %80\nput %80 ~!\n"))
	longest := pairsOf(strings.Repeat("\xff", maxKey) + "=" + strings.Repeat("\xfe", maxValue))
	wantWrite(t, "the longest", at(1, 0, 0), longest, summed("tidemark backup 1\nat 1.0.0\npairs 1\nput "+strings.Repeat("%ff", maxKey)+" "+strings.Repeat("%fe", maxValue)+"\n"))
}

// P20.1: any number of pairs.
func TestManyPairs(t *testing.T) {
	for _, n := range []int{9, 10, maxPairs, maxPairs + 1, 70000} {
		var list []api.Pair
		var body strings.Builder
		body.WriteString("tidemark backup 1\nat 7.1.0\npairs " + strconv.Itoa(n) + "\n")
		for i := range n {
			key := "k" + strconv.Itoa(1000000+i)
			list = append(list, api.Pair{Key: key, Value: "v"})
			body.WriteString("put " + key + " v\n")
		}
		text, e := Write(at(7, 1, 0), list)
		if text != summed(body.String()) || e != api.OK {
			t.Fatalf("%d pairs: Write gives another text, %d", n, e)
		}
		if s, got, e := Read(text); s != at(7, 1, 0) || !slices.Equal(got, list) || e != api.OK {
			t.Fatalf("%d pairs: Read gives %v and %d pairs, %d", n, s, len(got), e)
		}
	}
}

// P20.1: what may not be, wherever it stands.
func TestWriteRefuses(t *testing.T) {
	wrong := [][]api.Pair{
		pairsOf("b=1", "a=1"), pairsOf("a=1", "a=1"), pairsOf("a=1", "a=2"), pairsOf("=1"), pairsOf("="), pairsOf("", "a=1"), pairsOf("a=1", "=1"),
		pairsOf("a=", "c=", "b="), pairsOf("\x80=", "\x7f="), pairsOf("a\x00=", "a="), pairsOf("a=", "b=", "a="),
		pairsOf(strings.Repeat("k", maxKey+1) + "=1"), pairsOf("a=1", strings.Repeat("k", maxKey+1)+"=1"), pairsOf("\x00"+strings.Repeat("\xff", maxKey)+"=", "a="),
		pairsOf("a=" + strings.Repeat("v", maxValue+1)), pairsOf("a="+strings.Repeat("v", maxValue+1), "b="), pairsOf("a=", "b="+strings.Repeat("\x00", maxValue+1)),
	}
	for _, list := range wrong {
		if text, e := Write(at(5, 0, 2), list); text != "" || e != api.ErrArg {
			t.Errorf("Write of %q gives %q, %d", list, text, e)
		}
		wantNoBackup(t, "of what Write refuses", modelText(at(5, 0, 2), list))
	}
	for _, s := range []api.Stamp{at(topWall, 0, 0), at(topWall, 0, 1), at(topWall, topSmall, topSmall)} {
		for _, list := range [][]api.Pair{nil, pairsOf("a=1"), pairsOf("b=1", "a=1")} {
			if text, e := Write(s, list); text != "" || e != api.ErrArg {
				t.Errorf("Write at %v gives %q, %d", s, text, e)
			}
			wantNoBackup(t, "at the top", modelText(s, list))
		}
	}
}

// P20.1, P20.2: sums of eight digits, also where the first ones are 0.
func TestSums(t *testing.T) {
	seen := map[string]int{}
	for n := range uint64(20000) {
		text, _ := Write(at(n, 0, 0), pairsOf("a=1"))
		if want := modelText(at(n, 0, 0), pairsOf("a=1")); text != want {
			t.Fatalf("Write gives %q, want %q", text, want)
		}
		body, sum, _ := strings.Cut(text, "sum ")
		sum = strings.TrimSuffix(sum, "\n")
		zeros := len(sum) - len(strings.TrimLeft(sum, "0"))
		seen[strconv.Itoa(zeros)]++
		wantRead(t, "a sum", text, at(n, 0, 0), pairsOf("a=1"))
		if zeros > 0 {
			wantNoBackup(t, "without a 0", body+"sum "+sum[1:]+"\n", body+"sum  "+sum[1:]+"\n", body+"sum +"+sum[1:]+"\n", body+"sum 0"+sum+"\n")
		}
		if upper := strings.ToUpper(sum); upper != sum {
			wantNoBackup(t, "in upper case", body+"sum "+upper+"\n")
		}
		if t.Failed() {
			t.FailNow()
		}
	}
	wantSeen(t, seen, "0", "1", "2")
}

// P20.2: lines that no backup has, with a sum that is right.
func TestReadRefusesLines(t *testing.T) {
	for line, wrongs := range map[string][]string{
		"tidemark backup 1": {"tidemark backup 2", "tidemark backup 1 ", " tidemark backup 1", "tidemark backup", "Tidemark backup 1", "tidemark  backup 1", "tidemark backup 01", "tidemark backup 1\r", "\ufefftidemark backup 1", "", "# tidemark backup 1"},
		"at 5.0.2": {"at 5.0", "at 5.0.2.", "at 5.0.2.0", "at 05.0.2", "at 5.00.2", "at 5.0.02", "at +5.0.2", "at -5.0.2", "at  5.0.2", "at 5.0.2 ", " at 5.0.2", "at\t5.0.2", "at5.0.2", "at", "at ", "At 5.0.2", "as 5.0.2", "5.0.2", "at 5,0,2", "at 5 0 2",
			"at 18446744073709551615.0.2", "at 18446744073709551616.0.2", "at 18446744073709551621.0.2", "at 5.4294967296.2", "at 5.0.4294967298", "at %35.0.2", "at 5.0.2\r", "pairs 2"},
		"pairs 2": {"pairs 0", "pairs 1", "pairs 3", "pairs 02", "pairs +2", "pairs -2", "pairs  2", "pairs 2 ", " pairs 2", "pairs", "pairs ", "pairs2", "pair 2", "Pairs 2", "pairs 2.0", "pairs 0x2", "pairs 2_", "pairs 1e0", "pairs two", "pairs %32", "pairs \u0662", "pairs 2 2",
			"pairs 258", "pairs 65538", "pairs 4294967298", "pairs 9223372036854775808", "pairs 18446744073709551615", "pairs 18446744073709551616", "pairs 18446744073709551618", "pairs 100000000000000000000000000002", "pairs 2\r"},
		"put a 1": {"put %61 1", "put a %31", "put a", "put a ", "put  1", "put", "put ", "put  a 1", "put a  1", "put a 1 ", "put a 1 1", " put a 1", "put\ta 1", "Put a 1", "del a 1", "del a", "a 1", "puta 1", "put % 1", "put c 1", "put b 1", "put b%00 1",
			"put a %2", "put a %2F", "put a %%", "put a 1%", "put a \xff", "put a \x7f", "put a\x00 1", "put a 1\r", "put \xff 1", "put a %20%2", "#put a 1", "pairs 2", "at 5.0.2",
			"put " + strings.Repeat("A", maxKey+1) + " 1", "put a " + strings.Repeat("1", maxValue+1), "put a " + strings.Repeat("%20", maxValue+1), "put " + strings.Repeat("%20", maxKey+1) + " 1"},
		"put b %": {"put b", "put b ", "put b %%", "put b %0", "put a %", "put %62 %", "put A %", "put % %", "put b % ", "put b\x00 %"},
	} {
		if strings.Count(two, line+"\n") != 1 {
			t.Fatalf("%q is no line of the text", line)
		}
		for _, wrong := range wrongs {
			wantNoBackup(t, "in the place of "+line, summed(strings.Replace(two, line+"\n", wrong+"\n", 1)), summed(strings.Replace(two, line+"\n", wrong, 1)))
		}
		wantNoBackup(t, "without or with more", summed(strings.Replace(two, line+"\n", "", 1)), summed(strings.Replace(two, line+"\n", line+"\n"+line+"\n", 1)), summed(strings.Replace(two, line+"\n", "\n"+line+"\n", 1)), summed(strings.Replace(two, line+"\n", line+"\n\n", 1)))
	}
	wantRead(t, "the text that was spoilt", summed(two), at(5, 0, 2), pairsOf("a=1", "b="))
}

// P20.2: lines in another order, or that stand twice, or behind the sum; other ends of lines.
func TestReadRefusesOrders(t *testing.T) {
	lines := strings.SplitAfter(two, "\n")
	lines = lines[:len(lines)-1]
	for i := range lines {
		for j := range i {
			turned := slices.Clone(lines)
			turned[i], turned[j] = turned[j], turned[i]
			wantNoBackup(t, "two lines turned", summed(strings.Join(turned, "")))
		}
		wantNoBackup(t, "not whole", summed(strings.Join(lines[:i], "")), strings.Join(lines[:i], ""))
	}
	whole := summed(two)
	sum := whole[len(two):]
	wantNoBackup(t, "the sum", two, two+"sum", two+"sum ", two+"sum\n", two+"sum \n", two+strings.Replace(sum, "\n", "0\n", 1), two+sum[:11]+"\n", two+" "+sum, two+strings.Replace(sum, " ", "  ", 1), two+strings.Replace(sum, "\n", " \n", 1), two+strings.ToUpper(sum), two+"Sum"+sum[3:], two+"sum 00000000\n", two+sum[4:], two+"sum 0x"+sum[4:])
	wantNoBackup(t, "the end", whole[:len(whole)-1], whole+"\n", whole+" ", whole+"\x00", whole+sum, whole+whole, summed(whole), whole+"put c 1\n", "\n"+whole, " "+whole, sum+whole, whole[:len(whole)-1]+"\r\n", strings.ReplaceAll(whole, "\n", "\r\n"), strings.ReplaceAll(whole, "\n", "\r"), summed(strings.ReplaceAll(two, "\n", "\r\n")))
	wantNoBackup(t, "nothing", "", "\n", " ", "x", "\x00", "\xff", summed(""), summed("\n"), strings.Repeat("\n", 100), strings.Repeat("x", 1<<20), strings.Repeat("put a 1\n", 1<<16))
	wantNoBackup(t, "many are said to follow", summed("tidemark backup 1\nat 5.0.2\npairs 2147483647\n"), summed("tidemark backup 1\nat 5.0.2\npairs 9223372036854775807\nput a 1\n"))
}

// P20.2: one byte that is turned, taken out or added, with the old sum, and of the body with a new one.
func TestReadOfSpoiltTexts(t *testing.T) {
	whole := summed(two)
	for i := range whole {
		wantNoBackup(t, "cut short", whole[:i])
		wantNoBackup(t, "a byte is missing", whole[:i]+whole[i+1:])
		for b := range 256 {
			other := string([]byte{byte(b)})
			if other != whole[i:i+1] {
				wantNoBackup(t, "another byte", whole[:i]+other+whole[i+1:])
			}
			wantAsModel(t, whole[:i]+other+whole[i:])
			if i < len(two) {
				wantAsModel(t, summed(two[:i]+other+two[i+1:]))
				wantAsModel(t, summed(two[:i]+other+two[i:]))
				wantAsModel(t, summed(two[:i]+two[i+1:]))
			}
		}
	}
}

// wantAsModel holds Read to the model, and what it takes to Write; it tells whether it was taken.
func wantAsModel(t *testing.T, text string) bool {
	t.Helper()
	s, list, e := Read(text)
	want, pairs, ok := modelRead(text)
	if s != want || !slices.Equal(list, pairs) || ok != (e == api.OK) || !ok && e != api.ErrBackup {
		t.Fatalf("Read(%q) gives %v, %q, %d, want %v, %q, %v", text, s, list, e, want, pairs, ok)
	}
	if again, e := Write(s, list); ok && (again != text || e != api.OK) {
		t.Fatalf("%q is read, and written as %q, %d", text, again, e)
	}
	return ok
}

// P20.1, P20.2: any backups, there and back; and what becomes of them by some changes.
func TestAnyTexts(t *testing.T) {
	seen := map[string]int{}
	for seed := range int64(6000) {
		d := newDice(seed)
		s, pairs := d.usable(), d.pairs(6)
		wantWrite(t, "drawn", s, pairs, modelText(s, pairs))
		body := modelBody(s, pairs)
		for range 1 + d.Intn(3) {
			i, j := d.Intn(len(body)+1), d.Intn(len(body)+1)
			switch d.Intn(4) {
			case 0:
				body = body[:i] + d.pick("0", "1", "%", " ", "\n", "a", "%20", ".", "\x00", "\xff") + body[i:]
			case 1:
				body = body[:i] + body[min(i+1, len(body)):]
			case 2:
				body = body[:min(i, j)] + body[max(i, j):]
			case 3:
				i, j = min(i, j), max(i, j)
				body = body[:j] + body[i:]
			}
		}
		wantAsModel(t, body)
		if wantAsModel(t, summed(body)) {
			seen["taken"]++
		} else {
			seen["refused"]++
		}
		if t.Failed() {
			t.Fatalf("seed %d", seed)
		}
	}
	wantSeen(t, seen, "taken", "refused")
}

// Ways: the lines come one by one, and the one who goes over them may leave; what is no line is given up.
func TestLines(t *testing.T) {
	var told []string
	for ahead, line := range lines("a\n\nbc\n") {
		told = append(told, ahead+"|"+line)
	}
	if want := []string{"|a", "a\n|", "a\n\n|bc"}; !slices.Equal(told, want) {
		t.Errorf("the lines are %q, want %q", told, want)
	}
	for _, line := range lines("a\nb\nno end") {
		if line == "b" {
			break
		}
	}
	for range lines("") {
		t.Error("nothing has a line")
	}
	defer func() {
		if !gaveUp(recover()) {
			t.Error("a line without an end is taken")
		}
	}()
	for range lines("a\nb") {
	}
}

// Ways: what is not the reader's giving up goes on.
func TestOtherPanics(t *testing.T) {
	if gaveUp(nil) {
		t.Error("nothing was given up")
	}
	defer func() {
		if recover() != "another one" {
			t.Error("another panic is hidden")
		}
	}()
	gaveUp("another one")
}
