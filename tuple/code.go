package tuple

import (
	"strings"

	"tidemark/api"
)

// A code's first byte tells what follows. That of an integer is as far above or below leadZero as the integer has bytes.
const (
	leadNull  = 0x01
	leadFalse = 0x02
	leadTrue  = 0x03
	leadZero  = 0x18
	leadText  = 0x30
)

const (
	mostBytes = 8 // of an integer

	turnedOver = 0xff // turns a byte's bits over, so that the lower one of two negative integers has the lower bytes

	// A text's bytes 0 are told from its end by what follows, which begins no code.
	endOfText = "\x00"
	zeroByte  = "\x00\xff"
)

// Encode gives a tuple's bytes (P25.2, P25.4, P25.6).
func Encode(t []api.Value) (string, api.Errno) {
	if e := Valid(t); e != api.OK {
		return "", e
	}
	var b []byte
	for _, v := range t {
		b = appendCode(b, v)
	}
	return string(b), api.OK
}

func appendCode(b []byte, v api.Value) []byte {
	switch v.Kind {
	case api.ValBool:
		if v.Flag {
			return append(b, leadTrue)
		}
		return append(b, leadFalse)
	case api.ValInt:
		return appendInteger(b, v.Int)
	case api.ValText:
		return appendText(b, v.Text)
	}
	return append(b, leadNull)
}

func appendInteger(b []byte, n int64) []byte {
	if n < 0 {
		room, begin := lay(-uint64(n)) // without a sign, as the least integer has no opposite
		b = append(b, byte(leadZero-(mostBytes-begin)))
		for _, digit := range room[begin:] {
			b = append(b, digit^turnedOver)
		}
		return b
	}
	room, begin := lay(uint64(n))
	b = append(b, byte(leadZero+(mostBytes-begin)))
	return append(b, room[begin:]...)
}

// lay gives a number's bytes, the highest first, and the place at which they begin: behind the last one for 0.
func lay(n uint64) (room [mostBytes]byte, begin int) {
	begin = mostBytes
	for ; n > 0; n >>= 8 {
		begin--
		room[begin] = byte(n)
	}
	return room, begin
}

func appendText(b []byte, s string) []byte {
	b = append(b, leadText)
	b = append(b, strings.ReplaceAll(s, endOfText, zeroByte)...)
	return append(b, endOfText...)
}

// Decode gives the tuple of bytes (P25.3, P25.4).
func Decode(b string) ([]api.Value, api.Errno) {
	var t []api.Value
	for b != "" {
		v, size := first(b)
		if size == 0 {
			return nil, api.ErrTuple
		}
		t = append(t, v)
		b = b[size:]
	}
	return t, api.OK
}

// first gives the value with whose code bytes begin, and how many bytes of them are its code: 0, if there is none.
func first(b string) (v api.Value, size int) {
	lead := b[0]
	switch {
	case lead == leadNull:
		return api.Value{}, 1
	case lead == leadFalse, lead == leadTrue:
		return flagValue(lead == leadTrue), 1
	case lead == leadText:
		return firstText(b)
	case leadZero-mostBytes <= lead && lead <= leadZero+mostBytes:
		return firstInteger(b)
	}
	return api.Value{}, 0
}

// firstInteger reads the bytes with wrap-round, and takes them if what comes of it has these: no other way to write it is a code.
func firstInteger(b string) (v api.Value, size int) {
	bytes := int(b[0]) - leadZero
	turn, sign := byte(0), int64(1)
	if bytes < 0 {
		bytes, turn, sign = -bytes, turnedOver, -1
	}
	if len(b) < 1+bytes {
		return api.Value{}, 0
	}
	var n int64
	for i := range bytes {
		n = n<<8 | int64(b[1+i]^turn)
	}
	n *= sign
	if string(appendInteger(nil, n)) != b[:1+bytes] {
		return api.Value{}, 0
	}
	return intValue(n), 1 + bytes
}

func firstText(b string) (v api.Value, size int) {
	var s strings.Builder
	rest := b[1:]
	for {
		piece, behind, ended := strings.Cut(rest, endOfText)
		if !ended {
			return api.Value{}, 0
		}
		s.WriteString(piece)
		if behind == "" || behind[0] != zeroByte[1] {
			return textValue(s.String()), len(b) - len(behind)
		}
		s.WriteByte(zeroByte[0])
		rest = behind[1:]
	}
}
