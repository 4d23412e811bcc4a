package route

import (
	"strings"

	"tidemark/api"
)

const hexDigits = "0123456789abcdef"

// Word gives a text as a word without blanks (P12.3).
func Word(text string) string {
	if text == "" {
		return "%"
	}
	var word strings.Builder
	for i := range len(text) {
		b := text[i]
		if plain(b) {
			word.WriteByte(b)
		} else {
			word.WriteByte('%')
			word.WriteByte(hexDigits[b>>4])
			word.WriteByte(hexDigits[b&15])
		}
	}
	return word.String()
}

// Unword gives the text of a word (P12.3).
func Unword(word string) (string, api.Errno) {
	if word == "%" {
		return "", api.OK
	}
	if word == "" {
		return "", api.ErrConfig
	}
	var text strings.Builder
	for word != "" {
		b, size := first(word)
		if size == 0 {
			return "", api.ErrConfig
		}
		text.WriteByte(b)
		word = word[size:]
	}
	return text.String(), api.OK
}

// plain tells whether a byte stands for itself in a word.
func plain(b byte) bool { return '!' <= b && b <= '~' && b != '%' }

// first gives the byte that a word begins with, and how many bytes of the word write it: none, if nothing is written so. A byte that is plain may not be written by its digits: each text has one word.
func first(word string) (byte, int) {
	if plain(word[0]) {
		return word[0], 1
	}
	if word[0] != '%' || len(word) < 3 {
		return 0, 0
	}
	high, low := strings.IndexByte(hexDigits, word[1]), strings.IndexByte(hexDigits, word[2])
	b := byte(high<<4 | low)
	if high < 0 || low < 0 || plain(b) {
		return 0, 0
	}
	return b, 3
}
