// Package message: messages, as parts and as bytes.
package message

import (
	"strings"

	"skein/api"
)

// Pack gives the bytes of the message that has these parts.
func Pack(parts []string) (string, api.Errno) {
	if !within(parts) {
		return "", api.ErrLong
	}
	var b strings.Builder
	b.WriteByte(byte(len(parts)))
	for _, part := range parts {
		b.WriteByte(byte(len(part)))
	}
	for _, part := range parts {
		b.WriteString(part)
	}
	return b.String(), api.OK
}

// Unpack gives the parts of the message that has these bytes.
func Unpack(s string) ([]string, api.Errno) {
	lengths, rest, ok := split(s)
	if !ok {
		return nil, api.ErrTable
	}
	parts := make([]string, len(lengths))
	for i := range parts {
		n := int(lengths[i])
		// A mere piece of s would keep what was handed in.
		parts[i] = strings.Clone(rest[:n])
		rest = rest[n:]
	}
	return parts, api.OK
}

func within(parts []string) bool {
	if len(parts) > api.MaxParts {
		return false
	}
	for _, part := range parts {
		if len(part) > api.MaxPart {
			return false
		}
	}
	return true
}

// split parts the lengths (a byte each) from the texts behind them; ok tells whether s is the bytes of a message.
func split(s string) (lengths, rest string, ok bool) {
	if s == "" || int(s[0]) > api.MaxParts || int(s[0]) > len(s)-1 {
		return "", "", false
	}
	start := 1 + int(s[0])
	lengths, rest = s[1:start], s[start:]
	// By index: ranging over a string would go by runes, not by bytes.
	total := 0
	for i := range len(lengths) {
		if lengths[i] > api.MaxPart {
			return "", "", false
		}
		total += int(lengths[i])
	}
	return lengths, rest, total == len(rest)
}
