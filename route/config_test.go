package route

import (
	"errors"
	"math"
	"math/big"
	"math/rand"
	"regexp"
	"slices"
	"strconv"
	"strings"
	"testing"

	"tidemark/api"
)

// Limits of DOC.md, told apart from api's constants.
const (
	maxShards   = 6
	maxClients  = 6
	maxPark     = 16
	minCapacity = 256
	maxCapacity = 1048576
	maxConfig   = 600
	maxKey      = 32
)

// three is the configuration of the chapter's examples.
const three = "shards 3\nclients 2\ncapacity 4096\npark 4\nwindow 100\nsplit g\nsplit p"

func config() api.Config {
	return api.Config{Shards: 3, Clients: 2, Splits: []string{"g", "p"}, Capacity: 4096, Park: 4, Window: 100}
}

// changed is the example's configuration with a change.
func changed(change func(c *api.Config)) api.Config {
	c := config()
	change(&c)
	return c
}

// with is the example's text with one piece in another's place, which must stand there.
func with(t *testing.T, old, new string) string {
	t.Helper()
	return instead(t, three, old, new)
}

func instead(t *testing.T, text, old, new string) string {
	t.Helper()
	if strings.Count(text, old) != 1 {
		t.Fatalf("%q stands %d times in %q", old, strings.Count(text, old), text)
	}
	return strings.Replace(text, old, new, 1)
}

func same(a, b api.Config) bool {
	splits := slices.Equal(a.Splits, b.Splits)
	a.Splits, b.Splits = nil, nil
	return splits && a.Shards == b.Shards && a.Clients == b.Clients && a.Capacity == b.Capacity && a.Park == b.Park && a.Window == b.Window
}

func wantParse(t *testing.T, text string, want api.Config, e api.Errno) {
	t.Helper()
	if got, no := Parse(text); !same(got, want) || no != e {
		t.Errorf("Parse(%q) = %v, %d, want %v, %d", text, got, no, want, e)
	}
}

func wantRefused(t *testing.T, e api.Errno, texts ...string) {
	t.Helper()
	for _, text := range texts {
		wantParse(t, text, api.Config{}, e)
	}
}

// P12.1: the chapter's examples.
func TestParseOfTheExamples(t *testing.T) {
	wantParse(t, three, config(), api.OK)
	wantParse(t, "# three\npark 4\nclients 2\ncapacity 4096\nshards 3\nwindow 100\nsplit g\nsplit p", config(), api.OK)
	wantRefused(t, api.ErrConfig,
		with(t, "shards 3", "shards  3"), with(t, "shards 3", "shards 03"), with(t, "shards 3", "shards 3 "), with(t, "shards 3", "shard 3"),
		with(t, "park 4\n", ""), with(t, "park 4", "park 4\npark 4"))
	wantRefused(t, api.ErrArg,
		with(t, "shards 3", "shards 7"), with(t, "capacity 4096", "capacity 255"), with(t, "park 4", "park 17"), with(t, "window 100", "window 18446744073709551616"),
		with(t, "\nsplit p", ""), with(t, "split p", "split f"), with(t, "split p", "split g"), with(t, "split p", "split %"))
	wantRefused(t, api.ErrConfig, instead(t, with(t, "split p", "split P%"), "shards 3", "shards 7"), "")
}

// P12.1: in any order, but for the splits among themselves.
func TestTheOrderOfTheLinesIsFree(t *testing.T) {
	r := rand.New(rand.NewSource(1))
	lines := strings.Split(three, "\n")
	for range 500 {
		r.Shuffle(len(lines), func(i, j int) { lines[i], lines[j] = lines[j], lines[i] })
		if slices.Index(lines, "split g") < slices.Index(lines, "split p") {
			wantParse(t, strings.Join(lines, "\n"), config(), api.OK)
		} else {
			wantRefused(t, api.ErrArg, strings.Join(lines, "\n"))
		}
	}
}

// P12.1: what is left out may stand anywhere, and hold anything.
func TestEmptyLinesAndRemarksAreLeftOut(t *testing.T) {
	for _, out := range []string{"", "#", "##", "# three", "#shards 4", "# shards 4", "#\x00\xff %", "#\r", "# " + strings.Repeat("x", 100)} {
		lines := strings.Split(three, "\n")
		for i := range len(lines) + 1 {
			wantParse(t, strings.Join(slices.Insert(slices.Clone(lines), i, out, out), "\n"), config(), api.OK)
		}
	}
	wantRefused(t, api.ErrConfig, three+"\n ", three+"\n #", three+"\r", three+"\n\r\n", three+"\n\t", three+" # three", three+"\n\x00", "\ufeff"+three, strings.ReplaceAll(three, "\n", "\r\n"), strings.ReplaceAll(three, "\n", "\r"))
}

// P12.1: nothing that must stand stands in these.
func TestATextOfNothingIsNoConfiguration(t *testing.T) {
	wantRefused(t, api.ErrConfig, "", "\n", "\n\n\n", "#", "# three", "split g", "split g\nsplit p", strings.Repeat("\n", maxConfig), strings.Repeat("#", maxConfig))
}

// P12.1: the limits of each number, its edges and beyond them.
func TestTheLimitsOfTheNumbers(t *testing.T) {
	one := "shards 1\nclients 1\ncapacity 4096\npark 4\nwindow 100"
	for _, n := range []uint64{1, 2, maxClients} {
		wantParse(t, with(t, "clients 2", "clients "+strconv.FormatUint(n, 10)), changed(func(c *api.Config) { c.Clients = int(n) }), api.OK)
	}
	for _, n := range []uint64{minCapacity, minCapacity + 1, 65536, maxCapacity - 1, maxCapacity} {
		wantParse(t, with(t, "capacity 4096", "capacity "+strconv.FormatUint(n, 10)), changed(func(c *api.Config) { c.Capacity = int(n) }), api.OK)
	}
	for _, n := range []uint64{0, 1, 10, maxPark} {
		wantParse(t, with(t, "park 4", "park "+strconv.FormatUint(n, 10)), changed(func(c *api.Config) { c.Park = int(n) }), api.OK)
	}
	for _, n := range []uint64{0, 1, 1 << 31, 1 << 32, 1<<63 - 1, 1 << 63, math.MaxUint64 - 1, math.MaxUint64} {
		wantParse(t, with(t, "window 100", "window "+strconv.FormatUint(n, 10)), changed(func(c *api.Config) { c.Window = n }), api.OK)
	}
	for n := 1; n <= maxShards; n++ {
		text, splits := instead(t, one, "shards 1", "shards "+strconv.Itoa(n)), []string{"a", "b", "c", "d", "e"}[:n-1]
		for _, split := range splits {
			text += "\nsplit " + split
		}
		wantParse(t, text, api.Config{Shards: n, Clients: 1, Splits: splits, Capacity: 4096, Park: 4, Window: 100}, api.OK)
	}
	wantRefused(t, api.ErrArg, instead(t, one, "shards 1", "shards 0"), instead(t, one, "shards 1", "shards 7")+"\nsplit a\nsplit b\nsplit c\nsplit d\nsplit e\nsplit f")
	for name, wrong := range map[string][]string{"shards 3": {"0", "7"}, "clients 2": {"0", "7"}, "capacity 4096": {"0", "1", "255", "1048577"}, "park 4": {"17"}} {
		// Numbers that an int of 32 or of 64 bits takes for a right one, or for one below 0, too.
		for _, n := range append(wrong, "2147483648", "4294967298", "4294967299", "4294971392", "9223372036854775807", "9223372036854775808", "18446744073709551615", "18446744073709551616", "18446744073709551619", "18446744073709555712", strings.Repeat("9", 400)) {
			wantRefused(t, api.ErrArg, with(t, name, strings.Fields(name)[0]+" "+n))
		}
	}
	for _, n := range []string{"18446744073709551616", "18446744073709551716", "100000000000000000000", strings.Repeat("9", 400)} {
		wantRefused(t, api.ErrArg, with(t, "window 100", "window "+n))
	}
}

// P12.1: what is no number, in each of the five places.
func TestWhatIsNoNumber(t *testing.T) {
	for _, line := range strings.Split(three, "\n")[:5] {
		name, n, _ := strings.Cut(line, " ")
		for _, wrong := range []string{
			name, name + " ", name + "  ", name + "  " + n, name + " " + n + " ", name + " " + n + " " + n, " " + name + " " + n, name + "\t" + n, name + n, name + " \t" + n,
			name + " 0" + n, name + " 00", name + " +" + n, name + " -" + n, name + " -0", name + " 0x" + n, name + " " + n + "x", name + " x", name + " 1_0", name + " 1.0", name + " 1e3", name + " %31", name + " \u0663",
			name + " 99999999999999999999x", name + " 99999999999999999999 ", name + " 18446744073709551616_", name + " 099999999999999999999", name + " x99999999999999999999", name + " 9999999999x9999999999",
			strings.ToUpper(name) + " " + n, name[1:] + " " + n, name + "s " + n, name[:len(name)-1] + " " + n, name + "=" + n, name + " " + n + "\r", name + " " + n + "#", name + " # " + n, name + ": " + n,
		} {
			wantRefused(t, api.ErrConfig, with(t, line, wrong), with(t, line, line+"\n"+wrong))
		}
	}
}

// P12.1: each of the five stands once.
func TestEachOfTheFiveStandsOnce(t *testing.T) {
	for _, line := range strings.Split(three, "\n")[:5] {
		name, _, _ := strings.Cut(line, " ")
		wantRefused(t, api.ErrConfig, with(t, line+"\n", ""), with(t, line, line+"\n"+line), three+"\n"+line, line+"\n"+three, with(t, line, "# "+line))
		wantRefused(t, api.ErrConfig, three+"\n"+name+" 0", three+"\n"+name+" 99999999999999999999", name+" 99999999999999999999\n"+three, with(t, line, name+" 99999999999999999999\n"+name+" 99999999999999999999"))
	}
}

// P12.1: splits, as words and as keys.
func TestSplits(t *testing.T) {
	for word, split := range map[string]string{"p": "p", "g%00": "g\x00", "%ff": "\xff", "h%20i": "h i", "h%25": "h%", "h#": "h#", "%80%0a": "\x80\n", strings.Repeat("p", maxKey): strings.Repeat("p", maxKey), strings.Repeat("%ff", maxKey): strings.Repeat("\xff", maxKey)} {
		wantParse(t, with(t, "split p", "split "+word), changed(func(c *api.Config) { c.Splits[1] = split }), api.OK)
	}
	for _, wrong := range []string{"split", "split ", "split  p", "split p ", " split p", "split p q", "split\tp", "Split p", "splits p", "splitp", "split P%", "split %61", "split %2F", "split %2", "split %%", "split \xff", "split p\x00", "split p\r", "split p\x7f"} {
		wantRefused(t, api.ErrConfig, with(t, "split p", wrong), three+"\n"+wrong, instead(t, three+"\n"+wrong, "shards 3", "shards 4"))
	}
	for _, wrong := range []string{"split %", "split g", "split f", "split G", "split " + strings.Repeat("p", maxKey+1), "split " + strings.Repeat("%ff", maxKey+1), "split p\nsplit q", "# split p", ""} {
		wantRefused(t, api.ErrArg, with(t, "split p", wrong))
	}
	wantRefused(t, api.ErrArg, with(t, "split g", "split %"), with(t, "split g", "split p"), with(t, "split g", "split q"), with(t, "split g", "split p%00"), with(t, "split g", "split "+strings.Repeat("g", maxKey+1)), instead(t, three, "shards 3", "shards 1"), instead(t, three, "shards 3", "shards 2"), instead(t, three, "shards 3", "shards 4"))
}

// P12.1: Splits of a single shard is an empty list.
func TestASingleShardHasNoSplits(t *testing.T) {
	text := "shards 1\nclients 6\ncapacity 256\npark 0\nwindow 0"
	wantParse(t, text, api.Config{Shards: 1, Clients: 6, Capacity: 256}, api.OK)
	wantRefused(t, api.ErrArg, text+"\nsplit g", text+"\nsplit %")
}

// P12.1: a fault of the form is told ahead of one of a limit, wherever each stands.
func TestAFaultOfTheFormComesFirst(t *testing.T) {
	forms := []string{"shard 3", "split", "split P%", "park 4\npark 4", "window x", "window 99999999999999999999x", " "}
	limits := []string{"shards 7", "clients 0", "capacity 1", "window 18446744073709551616", "split %", "split a", "shards 99999999999999999999"}
	for _, limit := range limits {
		name, _, _ := strings.Cut(limit, " ")
		i := strings.Index(three, name)
		j := i + strings.Index(three[i:]+"\n", "\n")
		text := three[:i] + limit + three[j:]
		if name == "split" {
			text = three + "\n" + limit
		}
		wantRefused(t, api.ErrArg, text)
		for _, form := range forms {
			wantRefused(t, api.ErrConfig, text+"\n"+form, form+"\n"+text)
		}
		for _, line := range strings.Split(three, "\n")[:5] {
			if strings.Contains(text, line+"\n") {
				wantRefused(t, api.ErrConfig, instead(t, text, line+"\n", ""), line+"\n"+text)
			}
		}
	}
}

// P12.1: the bytes of the whole text are counted, remarks too.
func TestATextMayHave600Bytes(t *testing.T) {
	full := three + "\n#" + strings.Repeat("x", maxConfig-len(three)-2)
	wantParse(t, full, config(), api.OK)
	wantParse(t, three+strings.Repeat("\n", maxConfig-len(three)), config(), api.OK)
	wantRefused(t, api.ErrConfig, full+"x", full+"\n", three+strings.Repeat("\n", maxConfig-len(three)+1), strings.Repeat("\xff", 1<<20), with(t, "shards 3", "shards 7")+strings.Repeat("\n", maxConfig))
}

// P12.2
func TestTextOfAConfiguration(t *testing.T) {
	longest := api.Config{Shards: maxShards, Clients: maxClients, Capacity: maxCapacity, Park: maxPark, Window: math.MaxUint64}
	text := "shards 6\nclients 6\ncapacity 1048576\npark 16\nwindow 18446744073709551615\n"
	for i := range maxShards - 1 {
		longest.Splits = append(longest.Splits, strings.Repeat("\xff", maxKey-1)+string([]byte{0x80 + byte(i)}))
		text += "split " + strings.Repeat("%ff", maxKey-1) + "%8" + strconv.Itoa(i) + "\n"
	}
	if len(text) > maxConfig {
		t.Errorf("the longest text has %d bytes", len(text))
	}
	for _, c := range []struct {
		c    api.Config
		want string
	}{
		{config(), three + "\n"}, {longest, text},
		{api.Config{Shards: 1, Clients: 1, Capacity: minCapacity}, "shards 1\nclients 1\ncapacity 256\npark 0\nwindow 0\n"},
		{changed(func(c *api.Config) { c.Splits = []string{"a b", "\xff%"} }), with(t, "split g\nsplit p", "split a%20b\nsplit %ff%25\n")},
		{changed(func(c *api.Config) { c.Splits = []string{"\n", "#"} }), with(t, "split g\nsplit p", "split %0a\nsplit #\n")},
		{changed(func(c *api.Config) { c.Window = math.MaxUint64 }), with(t, "window 100", "window 18446744073709551615") + "\n"},
	} {
		if got, e := Text(c.c); got != c.want || e != api.OK {
			t.Errorf("Text(%v) = %q, %d, want %q", c.c, got, e, c.want)
		}
		wantParse(t, c.want, c.c, api.OK)
	}
}

// wrongs are configurations that are not valid, each by one thing alone.
func wrongs() []api.Config {
	var list []api.Config
	add := func(change func(c *api.Config)) { list = append(list, changed(change)) }
	for _, n := range []int{math.MinInt, -1, 0, 7, 1 << 32, 1<<32 + 3, math.MaxInt} {
		add(func(c *api.Config) { c.Shards = n })
		add(func(c *api.Config) { c.Clients = n })
		add(func(c *api.Config) { c.Capacity = n })
	}
	for _, n := range []int{1, 2, 4} {
		add(func(c *api.Config) { c.Shards = n })
	}
	for _, n := range []int{1, minCapacity - 1, maxCapacity + 1} {
		add(func(c *api.Config) { c.Capacity = n })
	}
	for _, n := range []int{math.MinInt, -1, maxPark + 1, math.MaxInt} {
		add(func(c *api.Config) { c.Park = n })
	}
	for _, splits := range [][]string{nil, {}, {"g"}, {"g", "p", "q"}, {"p", "g"}, {"g", "g"}, {"", "g"}, {"g", ""}, {"", ""}, {"\x80", "\x7f"}, {strings.Repeat("g", maxKey+1), "p"}, {"g", strings.Repeat("p", maxKey+1)}, make([]string, 1000)} {
		add(func(c *api.Config) { c.Splits = splits })
	}
	add(func(c *api.Config) { *c = api.Config{} })
	add(func(c *api.Config) { c.Shards, c.Splits = 0, nil })
	add(func(c *api.Config) { c.Shards, c.Splits = 7, []string{"a", "b", "c", "d", "e", "f"} })
	return list
}

// P12.2
func TestTextOfWhatIsNotValid(t *testing.T) {
	for _, c := range wrongs() {
		if got, e := Text(c); got != "" || e != api.ErrArg {
			t.Errorf("Text(%v) = %q, %d, want ErrArg", c, got, e)
		}
	}
}

// anyConfig is a valid configuration.
func anyConfig(r *rand.Rand) api.Config {
	c := api.Config{Shards: 1 + r.Intn(maxShards), Clients: 1 + r.Intn(maxClients), Capacity: minCapacity + r.Intn(maxCapacity-minCapacity+1), Park: r.Intn(maxPark + 1), Window: r.Uint64() >> r.Intn(64)}
	for len(c.Splits) < c.Shards-1 {
		if key := anyText(r, maxKey); key != "" && !slices.Contains(c.Splits, key) {
			c.Splits = append(c.Splits, key)
		}
	}
	slices.Sort(c.Splits)
	return c
}

// anyText is a text of at most so many bytes, of a few of them often.
func anyText(r *rand.Rand, most int) string {
	some := "ab%#\x00\x20\x21\x7e\x7f\xff"
	b := make([]byte, r.Intn(1+r.Intn(most+1)))
	for i := range b {
		if b[i] = byte(r.Intn(256)); r.Intn(2) == 0 {
			b[i] = some[r.Intn(len(some))]
		}
	}
	return string(b)
}

// P12.2: Parse(Text(c)) is c.
func TestTextAndBack(t *testing.T) {
	r := rand.New(rand.NewSource(2))
	for range 5000 {
		c := anyConfig(r)
		text, e := Text(c)
		if e != api.OK || len(text) > maxConfig {
			t.Fatalf("Text(%v) = %q, %d", c, text, e)
		}
		wantParse(t, text, c, api.OK)
	}
}

var (
	numberForm = regexp.MustCompile(`^(shards|clients|capacity|park|window) (0|[1-9][0-9]*)$`)
	splitForm  = regexp.MustCompile(`^split (%|(?:[!-$&-~]|%[01][0-9a-f]|%2[05]|%7f|%[89a-f][0-9a-f])+)$`)
	written    = regexp.MustCompile(`%[0-9a-f]{2}`)
)

// plainUnword is for words alone.
func plainUnword(word string) string {
	if word == "%" {
		return ""
	}
	return written.ReplaceAllStringFunc(word, func(s string) string {
		n, _ := strconv.ParseUint(s[1:], 16, 8)
		return string([]byte{byte(n)})
	})
}

// plainParse says what Parse must say, by other means.
func plainParse(text string) (api.Config, api.Errno) {
	numbers, splits := map[string][]*big.Int{}, []string(nil)
	for _, line := range strings.Split(text, "\n") {
		if line == "" || strings.HasPrefix(line, "#") {
			continue
		}
		if m := numberForm.FindStringSubmatch(line); m != nil {
			n, _ := new(big.Int).SetString(m[2], 10)
			numbers[m[1]] = append(numbers[m[1]], n)
		} else if m := splitForm.FindStringSubmatch(line); m != nil {
			splits = append(splits, plainUnword(m[1]))
		} else {
			return api.Config{}, api.ErrConfig
		}
	}
	for _, name := range []string{"shards", "clients", "capacity", "park", "window"} {
		if len(numbers[name]) != 1 {
			return api.Config{}, api.ErrConfig
		}
	}
	within := func(name string, least, most uint64) bool {
		n := numbers[name][0]
		return n.IsUint64() && least <= n.Uint64() && n.Uint64() <= most
	}
	if !within("shards", 1, 6) || !within("clients", 1, 6) || !within("capacity", 256, 1048576) || !within("park", 0, 16) || !within("window", 0, math.MaxUint64) {
		return api.Config{}, api.ErrArg
	}
	value := func(name string) int { return int(numbers[name][0].Int64()) }
	if len(splits) != value("shards")-1 {
		return api.Config{}, api.ErrArg
	}
	for i, split := range splits {
		if len(split) < 1 || len(split) > 32 || i > 0 && splits[i-1] >= split {
			return api.Config{}, api.ErrArg
		}
	}
	return api.Config{Shards: value("shards"), Clients: value("clients"), Splits: splits, Capacity: value("capacity"), Park: value("park"), Window: numbers["window"][0].Uint64()}, api.OK
}

// P12.1, P12.9: texts that are spoilt here and there, against plainParse.
func TestParseOfSpoiltTexts(t *testing.T) {
	r := rand.New(rand.NewSource(3))
	pieces := []string{"", " ", "\n", "#", "%", "0", "9", "99999999999999999999", "split ", "shards 3\n", "park 0\n", "\nsplit z", "\x00", "\xff", "x", "%20", "%41", "-", "\r"}
	told := map[api.Errno]int{}
	for range 60000 {
		text, _ := Text(anyConfig(r))
		for range r.Intn(3) {
			i := r.Intn(len(text) + 1)
			j := min(len(text), i+r.Intn(2)*r.Intn(12))
			text = text[:i] + pieces[r.Intn(len(pieces))] + text[j:]
		}
		if len(text) > maxConfig {
			continue
		}
		want, e := plainParse(text)
		wantParse(t, text, want, e)
		told[e]++
	}
	for _, e := range []api.Errno{api.OK, api.ErrArg, api.ErrConfig} {
		if told[e] < 1000 {
			t.Errorf("only %d of these texts are answered %d", told[e], e)
		}
	}
}

// P12.9, DOC.md, 'Lists': two answers share nothing.
func TestParseGivesNewMemory(t *testing.T) {
	a, _ := Parse(three)
	b, _ := Parse(three)
	spoil(a.Splits, "x")
	if !same(b, config()) {
		t.Errorf("a change of one answer is seen in another one: %v", b)
	}
	wantParse(t, three, config(), api.OK)
}

// P12.9: what is handed in is not changed.
func TestTextLeavesTheSplitsAsTheyAre(t *testing.T) {
	for _, splits := range [][]string{{"g", "p", "x", "y"}, {"p", "g", "x", "y"}} {
		c := changed(func(c *api.Config) { c.Splits = slices.Clone(splits)[:2] })
		Text(c)
		if !slices.Equal(c.Splits[:4], splits) {
			t.Errorf("the splits have become %q", c.Splits[:4])
		}
	}
}

// 'Ways': what is found in a line is wrapped with the line's number.
func TestAFaultTellsItsLine(t *testing.T) {
	for _, c := range []struct {
		text  string
		line  int
		about error
	}{
		{with(t, "shards 3", "shard 3"), 1, errForm}, {with(t, "park 4", "park 4\n\n# more\npark 5"), 7, errForm}, {with(t, "split p", "split P%"), 7, errForm},
		{with(t, "window 100", "window 18446744073709551616"), 5, errLimit}, {instead(t, with(t, "shards 3", "shards 99999999999999999999"), "split p", "x"), 7, errForm},
		{"", 0, errForm}, {with(t, "park 4\n", ""), 0, errForm}, {with(t, "split p", "split f"), 0, errLimit}, {strings.Repeat("#", maxConfig+1), 0, errForm},
	} {
		_, err := read(c.text)
		var f fault
		if !errors.As(err, &f) || f.line != c.line || !errors.Is(err, c.about) || errors.Is(err, errForm) == errors.Is(err, errLimit) {
			t.Errorf("read(%q): %v, want line %d, %v", c.text, err, c.line, c.about)
		}
	}
	if got := (fault{line: 12, cause: errForm}).Error(); got != "line 12: not of the form of a configuration" {
		t.Errorf("the text of a line's fault: %q", got)
	}
	if got := (fault{cause: errLimit}).Error(); got != "outside the limits of a configuration" {
		t.Errorf("the text of a fault of the whole: %q", got)
	}
}
