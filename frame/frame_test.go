package frame

import (
	"strings"
	"testing"
)

// divided works the check byte out another way than the program does: as what is left of a long division of polynomials by x^8 + x^2 + x + 1.
func divided(s string) byte {
	left := 0
	for _, b := range []byte(s + "\x00") {
		for bit := 7; bit >= 0; bit-- {
			left = left<<1 | int(b>>bit)&1
			if left&0x100 != 0 {
				left ^= 0x107
			}
		}
	}
	return byte(left)
}

func TestCheckKnown(t *testing.T) {
	for s, want := range map[string]byte{"": 0, "\x00": 0, "\x01": 7, "\x80": 0x89, "\x01\x00\x05": 112, "123456789": 0xf4} {
		if got := Check(s); got != want {
			t.Errorf("Check(%q) = %d, want %d", s, got, want)
		}
	}
}

func TestCheckIsARemainder(t *testing.T) {
	for a := range 256 {
		for b := range 256 {
			s := string([]byte{byte(a), byte(b), byte(a ^ 3*b)})
			for n := range len(s) + 1 {
				if got, want := Check(s[:n]), divided(s[:n]); got != want {
					t.Fatalf("Check(%q) = %d, want %d", s[:n], got, want)
				}
			}
		}
	}
}

func TestCheckOfLongBytes(t *testing.T) {
	// Bytes from 128 on and broken runes among them: Check goes by bytes.
	s := strings.Repeat("\xff\x80é\x00z", 1000)
	if got, want := Check(s), divided(s); got != want {
		t.Errorf("Check = %d, want %d", got, want)
	}
}
