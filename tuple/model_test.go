package tuple

import (
	"math/big"
	"regexp"
	"strconv"
	"strings"

	"tidemark/api"
)

// The model follows the chapter's words, by numbers of any size and by patterns.

func modelMayBe(v api.Value) bool {
	if v.Kind < 0 || v.Kind > 3 {
		return false
	}
	return (v.Kind == 1 || !v.Flag) && (v.Kind == 2 || v.Int == 0) && (v.Kind == 3 || v.Text == "")
}

func modelValid(t []api.Value) bool {
	for _, v := range t {
		if !modelMayBe(v) {
			return false
		}
	}
	return true
}

// power is 256^n.
func power(n int) *big.Int { return new(big.Int).Lsh(big.NewInt(1), uint(8*n)) }

// least is the least number of bytes that hold a number above 0.
func least(n *big.Int) int {
	size := 1
	for n.Cmp(power(size)) >= 0 {
		size++
	}
	return size
}

func modelCode(v api.Value) string {
	switch v.Kind {
	case 0:
		return "\x01"
	case 1:
		return map[bool]string{false: "\x02", true: "\x03"}[v.Flag]
	case 2:
		return modelInteger(big.NewInt(v.Int))
	}
	code := "\x30"
	for i := range len(v.Text) {
		code += v.Text[i : i+1]
		if v.Text[i] == 0 {
			code += "\xff"
		}
	}
	return code + "\x00"
}

func modelInteger(v *big.Int) string {
	switch v.Sign() {
	case 0:
		return "\x18"
	case 1:
		n := least(v)
		return string([]byte{byte(0x18 + n)}) + string(v.FillBytes(make([]byte, n)))
	}
	n := least(new(big.Int).Neg(v))
	turned := new(big.Int).Sub(power(n), big.NewInt(1))
	turned.Add(turned, v)
	return string([]byte{byte(0x18 - n)}) + string(turned.FillBytes(make([]byte, n)))
}

func modelEncode(t []api.Value) (string, api.Errno) {
	if !modelValid(t) {
		return "", api.ErrArg
	}
	b := ""
	for _, v := range t {
		b += modelCode(v)
	}
	return b, api.OK
}

func modelDecode(b string) ([]api.Value, api.Errno) {
	var t []api.Value
	for len(b) > 0 {
		var v api.Value
		size := 1
		switch lead := int(b[0]); {
		case lead == 1:
		case lead == 2, lead == 3:
			v = api.Value{Kind: 1, Flag: lead == 3}
		case lead == 0x30:
			s, n, ok := modelFirstText(b[1:])
			if !ok {
				return nil, api.ErrTuple
			}
			v, size = api.Value{Kind: 3, Text: s}, 1+n
		case lead >= 0x10 && lead <= 0x20:
			n, ok := modelFirstInteger(b[1:], lead-0x18)
			if !ok {
				return nil, api.ErrTuple
			}
			v, size = api.Value{Kind: 2, Int: n}, 1+max(lead-0x18, 0x18-lead)
		default:
			return nil, api.ErrTuple
		}
		t = append(t, v)
		b = b[size:]
	}
	return t, api.OK
}

func modelFirstInteger(b string, size int) (int64, bool) {
	n := max(size, -size)
	if len(b) < n {
		return 0, false
	}
	v := new(big.Int).SetBytes([]byte(b[:n]))
	if size < 0 {
		v.Sub(v, new(big.Int).Sub(power(n), big.NewInt(1)))
	}
	if v.Sign() != size/max(n, 1) || n > 0 && least(new(big.Int).Abs(v)) != n || !v.IsInt64() {
		return 0, false
	}
	return v.Int64(), true
}

func modelFirstText(b string) (string, int, bool) {
	for i := range len(b) {
		if b[i] == 0 && (i+1 == len(b) || b[i+1] != 0xff) {
			return strings.ReplaceAll(b[:i], "\x00\xff", "\x00"), i + 1, true
		}
	}
	return "", 0, false
}

// comesBefore is the order of values of the fields Kind, Flag, Int, Text.
func comesBefore(a, b api.Value) bool {
	if a.Kind != b.Kind {
		return a.Kind < b.Kind
	}
	if a.Flag != b.Flag {
		return b.Flag
	}
	if a.Int != b.Int {
		return a.Int < b.Int
	}
	return a.Text < b.Text
}

func modelCompare(a, b []api.Value) int {
	for i := range min(len(a), len(b)) {
		if a[i] != b[i] {
			if comesBefore(a[i], b[i]) {
				return -1
			}
			return 1
		}
	}
	if len(a) == len(b) {
		return 0
	}
	return map[bool]int{true: -1, false: 1}[len(a) < len(b)]
}

func modelBegins(t, prefix []api.Value) bool {
	return len(t) >= len(prefix) && modelCompare(t[:len(prefix)], prefix) == 0
}

func modelText(t []api.Value) (string, api.Errno) {
	if !modelValid(t) {
		return "", api.ErrArg
	}
	words := []string{}
	for _, v := range t {
		switch v.Kind {
		case 0:
			words = append(words, "null")
		case 1:
			words = append(words, map[bool]string{false: "false", true: "true"}[v.Flag])
		case 2:
			words = append(words, big.NewInt(v.Int).String())
		case 3:
			words = append(words, "'"+modelWord(v.Text))
		}
	}
	return strings.Join(words, " "), api.OK
}

func modelWord(s string) string {
	word := ""
	for i := range len(s) {
		if s[i] > 0x20 && s[i] < 0x7f && s[i] != '%' {
			word += s[i : i+1]
		} else {
			word += "%" + strconv.FormatUint(uint64(s[i])+0x100, 16)[1:]
		}
	}
	if word == "" {
		return "%"
	}
	return word
}

// wordForm is a value's word: the names, an integer's digits, a text's word, in which no byte is written by digits that stands for itself.
var wordForm = regexp.MustCompile(`^(?:null|false|true|(0|-?[1-9][0-9]*)|'(%|(?:[!-$&-~]|%[01][0-9a-f]|%2[05]|%7f|%[89a-f][0-9a-f])+))$`)

func modelParse(text string) ([]api.Value, api.Errno) {
	if text == "" {
		return nil, api.OK
	}
	var t []api.Value
	for _, word := range strings.Split(text, " ") {
		parts := wordForm.FindStringSubmatch(word)
		switch {
		case parts == nil:
			return nil, api.ErrTuple
		case parts[1] != "":
			n, _ := new(big.Int).SetString(word, 10)
			if !n.IsInt64() {
				return nil, api.ErrTuple
			}
			t = append(t, api.Value{Kind: 2, Int: n.Int64()})
		case parts[2] != "":
			t = append(t, api.Value{Kind: 3, Text: modelUnword(parts[2])})
		case word == "null":
			t = append(t, api.Value{})
		default:
			t = append(t, api.Value{Kind: 1, Flag: word == "true"})
		}
	}
	return t, api.OK
}

func modelUnword(word string) string {
	s := ""
	for i := 0; i < len(word) && word != "%"; i++ {
		if word[i] != '%' {
			s += word[i : i+1]
			continue
		}
		n, _ := strconv.ParseUint(word[i+1:i+3], 16, 8)
		s += string([]byte{byte(n)})
		i += 2
	}
	return s
}
