// Package frame: what frames are as bytes.
package frame

import "skein/api"

const (
	topBit = 0x80
	folded = 7 // what a 1 that falls out at the top comes back as
)

// Header gives the four bytes that a frame begins with.
func Header(kind, stream, length int) (string, api.Errno) {
	if !isByte(kind) || !isByte(stream) || !isByte(length) {
		return "", api.ErrFrame
	}
	return header(byte(kind), byte(stream), byte(length)), api.OK
}

// Make gives a whole frame. What it is handed must fit into a header, as the numbers of streams and the payloads of all frames that may be do.
func Make(kind, stream int, payload string) string {
	return header(byte(kind), byte(stream), byte(len(payload))) + payload
}

// Number gives a whole frame that carries one number, of those that fit into a byte.
func Number(kind, stream, number int) string {
	return Make(kind, stream, string([]byte{byte(number)}))
}

func header(kind, stream, length byte) string {
	fields := string([]byte{kind, stream, length})
	return fields + string([]byte{Check(fields)})
}

// Check works out the check byte of bytes.
func Check(s string) byte {
	sum := byte(0)
	// By index: ranging over a string would go by runes, not by bytes.
	for i := range len(s) {
		sum ^= s[i]
		for range 8 {
			sum = shift(sum)
		}
	}
	return sum
}

func shift(sum byte) byte {
	if sum&topBit != 0 {
		return sum<<1 ^ folded
	}
	return sum << 1
}

func isByte(n int) bool {
	return n >= 0 && n <= 255
}
