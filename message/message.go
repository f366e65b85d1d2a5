// Package message: messages, as parts and as bytes.
package message

import (
	"strings"

	"skein/api"
)

// Pack gives the bytes of the message that has these parts.
func Pack(parts []string) (string, api.Errno) {
	if !within(parts) {
		return "", api.ErrLong
	}
	var b strings.Builder
	b.WriteByte(byte(len(parts)))
	for _, part := range parts {
		b.WriteByte(byte(len(part)))
	}
	for _, part := range parts {
		b.WriteString(part)
	}
	return b.String(), api.OK
}

// Unpack gives the parts of the message that has these bytes.
func Unpack(s string) ([]string, api.Errno) {
	size, errno := Size(s)
	if errno != api.OK || size == 0 || size != len(s) {
		return nil, api.ErrTable
	}
	table := s[:1+int(s[0])]
	rest := s[len(table):]
	parts := make([]string, len(table)-1)
	for i := range parts {
		n := int(table[1+i])
		// A mere piece of s would keep what was handed in.
		parts[i] = strings.Clone(rest[:n])
		rest = rest[n:]
	}
	return parts, api.OK
}

// Size tells how many bytes the message has that begins with these: 0, as long as its table is not all there. It refuses bytes that no message begins with.
func Size(begun string) (int, api.Errno) {
	if begun == "" {
		return 0, api.OK
	}
	count := int(begun[0])
	if count > api.MaxParts {
		return 0, api.ErrTable
	}
	lengths := begun[1:min(1+count, len(begun))]
	size := 1 + count
	// By index: ranging over a string would go by runes, not by bytes.
	for i := range len(lengths) {
		if lengths[i] > api.MaxPart {
			return 0, api.ErrTable
		}
		size += int(lengths[i])
	}
	if len(lengths) < count {
		return 0, api.OK
	}
	return size, api.OK
}

func within(parts []string) bool {
	if len(parts) > api.MaxParts {
		return false
	}
	for _, part := range parts {
		if len(part) > api.MaxPart {
			return false
		}
	}
	return true
}
