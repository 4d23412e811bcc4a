package route

import (
	"math/rand"
	"strings"
	"testing"

	"tidemark/api"
)

func wantWord(t *testing.T, text, word string) {
	t.Helper()
	if got := Word(text); got != word {
		t.Errorf("Word(%q) = %q, want %q", text, got, word)
	}
	if got, e := Unword(word); got != text || e != api.OK {
		t.Errorf("Unword(%q) = %q, %d, want %q", word, got, e, text)
	}
}

func wantNoWord(t *testing.T, words ...string) {
	t.Helper()
	for _, word := range words {
		if got, e := Unword(word); got != "" || e != api.ErrConfig {
			t.Errorf("Unword(%q) = %q, %d, want ErrConfig", word, got, e)
		}
	}
}

// P12.3: the chapter's examples, and others.
func TestWordsAndTheirTexts(t *testing.T) {
	for text, word := range map[string]string{
		"": "%", "a b": "a%20b", "%": "%25", "\xff": "%ff", "50%": "50%25", "a": "a", "!~": "!~", "\x7f\x00": "%7f%00", "%%": "%25%25", "%25": "%2525", "%61": "%2561", "%ff": "%25ff",
		" ": "%20", "\n": "%0a", "\r\n": "%0d%0a", "é": "%c3%a9", "\u20ac1": "%e2%82%ac1", "#=,-|'": "#=,-|'", "\xab\xcd\xef": "%ab%cd%ef",
	} {
		wantWord(t, text, word)
	}
	wantNoWord(t, "", "%2", "%2F", "%61", "a b", "%%")
}

// P12.3: each byte has one way in which it is written.
func TestEachByte(t *testing.T) {
	for b := range 256 {
		text := string([]byte{byte(b)})
		low, high := "%"+string("0123456789abcdef"[b/16])+string("0123456789abcdef"[b%16]), "%"+string("0123456789ABCDEF"[b/16])+string("0123456789ABCDEF"[b%16])
		if itself := b >= 0x21 && b <= 0x7e && b != '%'; itself {
			wantWord(t, text, text)
			wantWord(t, "x"+text+"y", "x"+text+"y")
			wantNoWord(t, low, "x"+low, low+"x", high)
			continue
		}
		wantWord(t, text, low)
		wantWord(t, "x"+text+"y", "x"+low+"y")
		wantWord(t, text+text, low+low)
		if high != low {
			wantNoWord(t, high, "x"+high)
		}
		wantNoWord(t, "x"+text, low+text)
		if b != '%' { // alone it is the empty text
			wantNoWord(t, text)
		}
	}
}

// P12.3: a `%` is the whole word, or has two digits behind it.
func TestAWordCutShort(t *testing.T) {
	wantNoWord(t, "a%", "%a", "%f", "%ff%", "%ff%f", "a%2", "%2%25", "%%25", "%25%", "% ", "%g0", "%0g", "%G0", "%fF", "%Ff", "%+1", "%-1", "%0x", "% 1", "%1 ", "%/0", "%:0", "%`0", "%0`", "%0@", "%\x00\x00", "%\xff\xff", "%0", "%00%", "%00%0")
	wantNoWord(t, " ", "a ", " a", "a\n", "\n", "\x00", "\x80", "é", "a\x7f", "\xff", "\t")
}

// P12.3: each of these words is the word of its text, or no word; and no two texts have one word.
func TestAllShortWords(t *testing.T) {
	letters := []string{"%", "0", "2", "5", "6", "7", "a", "f", "F", "g", " ", "\x7f", "~", "!"}
	words := []string{""}
	good := 0
	for range 5 {
		var longer []string
		for _, word := range words {
			for _, letter := range letters {
				longer = append(longer, word+letter)
			}
		}
		words = longer
		if len(words) > 50000 {
			words = words[:50000]
		}
		for _, word := range words {
			text, e := Unword(word)
			if e == api.OK && Word(text) == word {
				good++
			} else if e != api.ErrConfig || text != "" {
				t.Errorf("Unword(%q) = %q, %d, and Word of that is %q", word, text, e, Word(text))
			}
		}
	}
	if good < 1000 {
		t.Errorf("only %d are words", good)
	}
}

// P12.3: Unword(Word(t)) is t, and a word has no blanks and nothing that is not seen.
func TestWordAndBack(t *testing.T) {
	r := rand.New(rand.NewSource(4))
	for range 5000 {
		text := anyText(r, 200)
		word := Word(text)
		wantWord(t, text, word)
		if i := strings.IndexFunc(word, func(c rune) bool { return c < 0x21 || c > 0x7e }); i >= 0 || word == "" {
			t.Errorf("Word(%q) = %q", text, word)
		}
		spoilt := []byte(word)
		spoilt[r.Intn(len(spoilt))] = byte(r.Intn(256))
		if back, e := Unword(string(spoilt)); e == api.OK && Word(back) != string(spoilt) || e != api.OK && (back != "" || e != api.ErrConfig) {
			t.Errorf("Unword(%q) = %q, %d", spoilt, back, e)
		}
	}
}

// P12.3, P12.9: texts of any length.
func TestLongWords(t *testing.T) {
	const n = 1 << 20
	wantWord(t, strings.Repeat("a", n), strings.Repeat("a", n))
	wantWord(t, strings.Repeat("\xff ", n), strings.Repeat("%ff%20", n))
	wantNoWord(t, strings.Repeat("a", n)+"%", strings.Repeat("%ff", n)+"%f", strings.Repeat("%", n))
}
