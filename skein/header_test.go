package skein_test

import (
	"math"
	"testing"

	"skein/api"
	"skein/skein"
)

// remainder is the check byte, worked out as what is left when the three bytes, as one polynomial, are divided by x^8 + x^2 + x + 1.
func remainder(kind, stream, length int) byte {
	left := kind<<24 | stream<<16 | length<<8
	for bit := 31; bit >= 8; bit-- {
		if left>>bit&1 != 0 {
			left ^= 0x107 << (bit - 8)
		}
	}
	return byte(left)
}

func expectHeader(t *testing.T, kind, stream, length int) {
	t.Helper()
	want := string([]byte{byte(kind), byte(stream), byte(length), remainder(kind, stream, length)})
	if s, e := skein.Header(kind, stream, length); s != want || e != api.OK {
		t.Fatalf("P4: Header(%d, %d, %d) = %q, %d, want %q", kind, stream, length, s, e, want)
	}
}

func TestP4HeaderKnown(t *testing.T) {
	for _, c := range []struct {
		kind, stream, length int
		want                 string
	}{
		{api.Data, 0, 5, "\x01\x00\x05\x70"},
		{0, 0, 0, "\x00\x00\x00\x00"},
		{0, 0, 1, "\x00\x00\x01\x07"},
		{0, 1, 0, "\x00\x01\x00\x15"},
	} {
		if s, e := skein.Header(c.kind, c.stream, c.length); s != c.want || e != api.OK {
			t.Errorf("P4: Header(%d, %d, %d) = %q, %d, want %q", c.kind, c.stream, c.length, s, e, c.want)
		}
	}
}

func TestP4HeaderOfAllBytes(t *testing.T) {
	for a := range 256 {
		for b := range 256 {
			expectHeader(t, a, b, 0)
			expectHeader(t, a, 0, b)
			expectHeader(t, 0, a, b)
			expectHeader(t, a, b, 255)
			expectHeader(t, a, 255, b)
			expectHeader(t, 255, a, b)
		}
	}
}

func TestP4HeaderRefuses(t *testing.T) {
	wrong := []int{-1, -2, -255, -256, 256, 257, 511, 512, 1 << 32, 1<<32 + 1, math.MaxInt, math.MinInt}
	for _, n := range wrong {
		for _, m := range append([]int{0, 1, 255}, wrong...) {
			for _, c := range [][3]int{{n, m, m}, {m, n, m}, {m, m, n}} {
				if s, e := skein.Header(c[0], c[1], c[2]); s != "" || e != api.ErrFrame {
					t.Errorf("P4: Header(%v) = %q, %d, want nothing and ErrFrame", c, s, e)
				}
			}
		}
	}
}

func TestP2HeaderForgets(t *testing.T) {
	first, _ := skein.Header(5, 0, 1)
	skein.Header(255, 255, 255)
	skein.Header(-1, 0, 0)
	if again, e := skein.Header(5, 0, 1); again != first || e != api.OK {
		t.Errorf("P2: Header(5, 0, 1) = %q, then %q, %d", first, again, e)
	}
}
