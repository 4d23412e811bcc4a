package tuple

import (
	"strconv"
	"strings"

	"tidemark/api"
	"tidemark/route"
)

const (
	nullWord  = "null"
	falseWord = "false"
	trueWord  = "true"
	quote     = "'" // ahead of a text's word: no other value's word begins so
	blank     = " "
)

// Text gives a tuple's text (P25.8).
func Text(t []api.Value) (string, api.Errno) {
	if e := Valid(t); e != api.OK {
		return "", e
	}
	words := make([]string, len(t))
	for i, v := range t {
		words[i] = wordOf(v)
	}
	return strings.Join(words, blank), api.OK
}

func wordOf(v api.Value) string {
	switch v.Kind {
	case api.ValBool:
		if v.Flag {
			return trueWord
		}
		return falseWord
	case api.ValInt:
		return strconv.FormatInt(v.Int, 10)
	case api.ValText:
		return quote + route.Word(v.Text)
	}
	return nullWord
}

// Parse gives the tuple of a text (P25.9).
func Parse(text string) ([]api.Value, api.Errno) {
	if text == "" { // which a cut takes for one word
		return nil, api.OK
	}
	var t []api.Value
	for word := range strings.SplitSeq(text, blank) {
		v, ok := valueOf(word)
		if !ok {
			return nil, api.ErrTuple
		}
		t = append(t, v)
	}
	return t, api.OK
}

func valueOf(word string) (v api.Value, ok bool) {
	switch word {
	case nullWord:
		return api.Value{}, true
	case falseWord, trueWord:
		return flagValue(word == trueWord), true
	}
	if quoted, ok := strings.CutPrefix(word, quote); ok {
		s, e := route.Unword(quoted)
		return textValue(s), e == api.OK
	}
	n, err := strconv.ParseInt(word, 10, 64)
	v = intValue(n)
	return v, err == nil && wordOf(v) == word // strconv takes a plus, and zeros in front, too
}
