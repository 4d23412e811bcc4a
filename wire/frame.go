package wire

import "tidemark/api"

// A frame is the payload's length, the checksum and the payload.
const (
	fieldSize = 4
	headSize  = 2 * fieldSize
)

const crcPolynomial = 0xedb88320 // reflected: the bit of x^31 is the lowest

var crcTable [256]uint32

// init works out once what each byte does to a checksum, so that Crc needn't go bit by bit.
func init() {
	for i := range crcTable {
		crcTable[i] = remainder(uint32(i))
	}
}

// remainder divides eight bits by the polynomial.
func remainder(bits uint32) uint32 {
	for range 8 {
		if bits&1 == 1 {
			bits = bits>>1 ^ crcPolynomial
		} else {
			bits >>= 1
		}
	}
	return bits
}

// Crc tells the CRC-32 of bytes (P3.8).
func Crc(s string) uint32 {
	sum := ^uint32(0)
	for i := range len(s) {
		sum = sum>>8 ^ crcTable[byte(sum)^s[i]]
	}
	return ^sum
}

// Frame lays bytes into a frame (P3.9).
func Frame(payload string) (string, api.Errno) {
	if len(payload) > api.MaxFrame {
		return "", api.ErrArg
	}
	length := putField(uint32(len(payload)))
	return length + putField(Crc(length+payload)) + payload, api.OK
}

// Unframe takes the first frame off: its payload and what follows it (P3.10).
func Unframe(s string) (string, string, api.Errno) {
	if len(s) < headSize {
		return "", "", api.ErrShort
	}
	length, sum, rest := s[:fieldSize], s[fieldSize:headSize], s[headSize:]
	n := field(length)
	if n > api.MaxFrame {
		return "", "", api.ErrFrame
	}
	if uint64(len(rest)) < uint64(n) {
		return "", "", api.ErrShort
	}
	payload := rest[:n]
	if Crc(length+payload) != field(sum) {
		return "", "", api.ErrFrame
	}
	return payload, rest[n:], api.OK
}

// putField puts a number into four bytes, the highest first.
func putField(n uint32) string {
	return string([]byte{byte(n >> 24), byte(n >> 16), byte(n >> 8), byte(n)})
}

// field undoes putField.
func field(b string) uint32 {
	return uint32(b[0])<<24 | uint32(b[1])<<16 | uint32(b[2])<<8 | uint32(b[3])
}
