package skein_test

import (
	"math"
	"strings"
	"testing"

	"skein/api"
	"skein/skein"
)

// full is an end that has something of everything to throw away, behind which given bytes of a Data frame were written.
func full(t *testing.T, given int) *skein.End {
	t.Helper()
	e := newEnd(t, plain())
	submit(t, e, 0, "abcd")
	submit(t, e, 1, "abcd")
	submit(t, e, 1, "more")
	expectWrite(t, e, given, data(0, "\x01\x04")[:given])
	read(t, e, data(1, "\x01\x01a"), data(1, "\x02\x02\x02"), data(0, "\x00"))
	release(t, e, 1)
	release(t, e, 0)
	read(t, e, data(0, "\x00"))
	return e
}

// last is what a dead end writes behind the frame that was begun.
func last(of api.Errno) string {
	if of == api.ErrAway {
		return ""
	}
	return gone(int(of))
}

func TestP15ThrowsAllAway(t *testing.T) {
	for _, of := range causes() {
		e := full(t, 0)
		expectKept(t, e, 18, 4, api.OK)
		kill(t, e, of)
		expectKept(t, e, 0, 0, of)
		for number := range 2 {
			expectFlow(t, e, number, api.Flow{NoSend: true, NoReceive: true})
		}
		expectWrite(t, e, 1000, last(of))
		expectWrite(t, e, 1000)
	}
}

// A frame of which a byte was given is given whole, ahead of Away.
func TestP15FrameThatWasBegun(t *testing.T) {
	frame := data(0, "\x01\x04")
	for _, of := range causes() {
		for given := 1; given <= len(frame); given++ {
			e := full(t, given)
			kill(t, e, of)
			expectKept(t, e, 0, 0, of)
			want := frame[given:] + last(of)
			for i := range len(want) {
				expectWrite(t, e, 0)
				expectWrite(t, e, 1, want[i:i+1])
			}
			expectWrite(t, e, math.MaxInt)
		}
	}
}

// It is the same with frames that are ahead of Data.
func TestP15WaitingFrameThatWasBegun(t *testing.T) {
	for _, of := range causes() {
		for given := 1; given <= 5; given++ {
			e := newEnd(t, plain())
			read(t, e, data(0, "\x00"))
			release(t, e, 0)
			cancel(t, e, 1)
			submit(t, e, 0, "a")
			expectWrite(t, e, given, credited(0, 1)[:given])
			kill(t, e, of)
			expectWrite(t, e, 1000, credited(0, 1)[given:], last(of))
			expectWrite(t, e, 1000)
		}
	}
}

func TestP15NothingElseEver(t *testing.T) {
	for _, of := range causes() {
		for _, written := range []int{0, 1, 3, 5} {
			e := full(t, 2)
			kill(t, e, of)
			want := data(0, "\x01\x04")[2:] + last(of)
			line := e.Write(written)
			for range 3 {
				expectDead(t, e, of)
				line += e.Write(2)
			}
			if line += e.Write(1000); line != want {
				t.Errorf("P15: dead of %d it writes %q, want %q", of, line, want)
			}
			expectDead(t, e, of)
			expectWrite(t, e, math.MaxInt)
		}
	}
}

// expectDead makes every call on an end that died.
func expectDead(t *testing.T, e *skein.End, of api.Errno) {
	t.Helper()
	for _, stream := range []int{math.MinInt, -1, 0, 1, 2, math.MaxInt} {
		for _, parts := range [][]string{nil, {"a"}, make([]string, 4), sized(0, 49)} {
			if errno := e.Submit(stream, parts); errno != api.ErrDead {
				t.Fatalf("P6: Submit(%d, %q) of a dead end = %d", stream, parts, errno)
			}
		}
		if errno := e.Cancel(stream); errno != api.ErrDead {
			t.Fatalf("P7: Cancel(%d) of a dead end = %d", stream, errno)
		}
		expectNoReceive(t, e, stream, api.ErrDead)
	}
	for _, s := range []string{"", "x", data(0, "\x00"), gone(0), deadly(api.ErrTable), strings.Repeat("\x00", 100)} {
		expectRead(t, e, s, api.ErrDead)
	}
	e.Tick()
	expectKept(t, e, 0, 0, of)
	for number := range 2 {
		expectFlow(t, e, number, api.Flow{NoSend: true, NoReceive: true})
	}
	if f, errno := e.Flow(2); f != (api.Flow{}) || errno != api.ErrStream {
		t.Fatalf("P14: Flow(2) of a dead end = %+v, %d", f, errno)
	}
}

// What was written ahead of death counts: so much is left of a turn, and none of it is used.
func TestP15DiesInTheMidstOfATurn(t *testing.T) {
	e := newEnd(t, even(2, 8, 2))
	submit(t, e, 0, "abcdefgh")
	submit(t, e, 1, "abcdefgh")
	expectWrite(t, e, 6, data(0, "\x01\x08"))
	expectRead(t, e, frameBytes(9, 0, ""), api.ErrFrame)
	expectWrite(t, e, 1000, gone(9))
	expectWrite(t, e, 1000)
}

// What one end dies of is the death of the other, and goes no further.
func TestP15TellsTheOtherEnd(t *testing.T) {
	for _, of := range []api.Errno{api.ErrCheck, api.ErrFrame, api.ErrCredit, api.ErrTable} {
		a, b := newEnd(t, plain()), full(t, 0)
		kill(t, a, of)
		expectRead(t, b, a.Write(1000)+"more", api.ErrAway)
		expectKept(t, b, 0, 0, api.ErrAway)
		expectWrite(t, b, 1000)
	}
}

func TestP15Example(t *testing.T) {
	e := newEnd(t, plain())
	expectRead(t, e, frameBytes(9, 0, ""), api.ErrFrame)
	expectWrite(t, e, 100, gone(9))
	expectDead(t, e, api.ErrFrame)
	expectWrite(t, e, 100)
}
