package skein_test

import (
	"math"
	"slices"
	"testing"

	"skein/api"
	"skein/skein"
)

func TestP12Example(t *testing.T) {
	a, b := newEnd(t, plain()), newEnd(t, plain())
	submit(t, a, 0, "abcd")
	submit(t, a, 1, "abcd")
	read(t, b, a.Write(100))
	expectKept(t, b, 0, 12, api.OK)
	expectReceive(t, b, 0, "abcd")
	expectFlow(t, b, 0, api.Flow{Credit: 20, Owed: 14})
	release(t, b, 0)
	expectKept(t, b, 0, 6, api.OK)
	expectFlow(t, b, 0, api.Flow{Credit: 20, Owed: 20})
	expectWrite(t, b, 100, credited(0, 6))
}

func TestP12RefusalsInOrder(t *testing.T) {
	for bits := range 1 << 4 {
		dead, strange, closed, none := bits&1 != 0, bits&2 != 0, bits&4 != 0, bits&8 != 0
		e := newEnd(t, plain())
		stream, want := 1, api.OK
		if !none {
			read(t, e, data(1, "\x00"))
		} else {
			want = api.ErrNone
			read(t, e, data(1, "\x01\x01"))
		}
		if closed {
			want = api.ErrClosed
			read(t, e, cancelled(1))
		}
		if strange {
			stream, want = 2, api.ErrStream
		}
		if dead {
			want = api.ErrDead
			kill(t, e, api.ErrTable)
		}
		if want == api.OK {
			expectReceive(t, e, stream)
			release(t, e, stream)
		} else {
			expectNoReceive(t, e, stream, want)
		}
	}
}

func TestP12NoSuchStream(t *testing.T) {
	for streams := 1; streams <= api.MaxStreams; streams++ {
		e := newEnd(t, even(streams, 1, 1))
		for number := range streams {
			read(t, e, data(number, "\x00"))
		}
		for _, number := range []int{math.MinInt, -1, streams, streams + 1, 256, 1 << 32, math.MaxInt} {
			expectNoReceive(t, e, number, api.ErrStream)
		}
		expectKept(t, e, 0, streams, api.OK)
	}
}

// A stream that this end has reset is closed for receiving, too.
func TestP12ClosedByThisEnd(t *testing.T) {
	e := newEnd(t, plain())
	read(t, e, data(1, "\x00\x01"))
	tick(e, plain().Patience)
	expectNoReceive(t, e, 1, api.ErrClosed)
}

// Neither this end's Cancel nor the other's Reset is for receiving.
func TestP12ClosedForSendingOnly(t *testing.T) {
	e := newEnd(t, plain())
	cancel(t, e, 0)
	read(t, e, resetted(1), data(0, "\x00"), data(1, "\x01\x01a"))
	expectReceive(t, e, 0)
	expectReceive(t, e, 1, "a")
	release(t, e, 0)
	release(t, e, 1)
	expectWrite(t, e, 1000, cancelled(0), credited(0, 1), credited(1, 3))
}

// Receive tells, and changes nothing; Release takes away the same message that Receive told.
func TestP12FirstComesFirst(t *testing.T) {
	e := newEnd(t, even(2, 8, 8))
	sizes := []int{2, 49, 17, 5, 48, 3, 34}
	line := ""
	for i, size := range sizes {
		line += asBytes(sized(i, size))
	}
	for ; line != ""; line = line[min(8, len(line)):] {
		read(t, e, data(1, line[:min(8, len(line))]))
	}
	held := 2 + 49 + 17 + 5 + 48 + 3 + 34
	frames := []string{}
	for i, size := range sizes {
		for range 3 {
			expectReceive(t, e, 1, sized(i, size)...)
			expectKept(t, e, 0, held, api.OK)
			expectFlow(t, e, 1, api.Flow{Credit: 250, Owed: 250 - held})
		}
		release(t, e, 1)
		held -= size
		expectKept(t, e, 0, held, api.OK)
		expectFlow(t, e, 1, api.Flow{Credit: 250, Owed: 250 - held})
		frames = append(frames, credited(1, size))
	}
	expectNoReceive(t, e, 1, api.ErrNone)
	expectWrite(t, e, 1000, frames...)
	expectWrite(t, e, 1000)
}

// What is released may come again, up to Window and no further.
func TestP12OwedAnew(t *testing.T) {
	e := newEnd(t, small(8, 1))
	for range 50 {
		read(t, e, data(0, "\x01\x02ab\x01\x02cd"))
		release(t, e, 0)
		read(t, e, data(0, "\x00\x00\x00\x00"))
		for range 5 {
			release(t, e, 0)
		}
	}
	read(t, e, data(0, "\x01\x02ab\x01\x02cd"))
	release(t, e, 0)
	expectRead(t, e, data(0, "\x00\x00\x00\x00\x00")[:4], api.ErrCredit)
}

// Credit is ahead of Data, and behind what was to be sent before it.
func TestP12CreditFramesGoFirst(t *testing.T) {
	e := newEnd(t, plain())
	submit(t, e, 0, "ab")
	expectWrite(t, e, 1, "\x01")
	read(t, e, data(0, "\x00\x00"), data(1, "\x01\x01z"))
	release(t, e, 1)
	cancel(t, e, 1)
	release(t, e, 0)
	expectWrite(t, e, 6, data(0, "\x01\x02")[1:], credited(1, 3)[:1])
	release(t, e, 0)
	expectWrite(t, e, 1000, credited(1, 3)[1:], cancelled(1), credited(0, 1), credited(0, 1), data(0, "ab"))
}

func TestP1RefusedReceiveChangesNothing(t *testing.T) {
	left, right := newEnd(t, plain()), newEnd(t, plain())
	line := data(0, "\x01\x02a") + data(1, "\x00") + data(0, "b") + cancelled(1) + data(0, "\x00")
	for i := range len(line) {
		read(t, right, line[i:i+1])
		for _, stream := range []int{-1, 0, 1, 2} {
			if _, errno := left.Receive(stream); errno != api.OK {
				expectNoReceive(t, left, stream, errno)
			}
		}
		read(t, left, line[i:i+1])
		if left.State() != right.State() {
			t.Fatalf("P1: %+v and %+v", left.State(), right.State())
		}
	}
	if a, b := left.Write(1000), right.Write(1000); a != "" || b != "" {
		t.Errorf("P1: Write = %q and %q", a, b)
	}
}

func TestP2ReceiveGivesNewLists(t *testing.T) {
	e := newEnd(t, even(1, 8, 8))
	want := []string{"ab", "", "cd"}
	read(t, e, data(0, asBytes(want)))
	first, _ := e.Receive(0)
	second, _ := e.Receive(0)
	all := first[:cap(first)]
	for i := range all {
		all[i] = "other"
	}
	third, _ := e.Receive(0)
	release(t, e, 0)
	if !slices.Equal(second, want) || !slices.Equal(third, want) {
		t.Errorf("P2: lists share memory: %q, %q", second, third)
	}
}

// What is told of a message stays as it is, whatever becomes of the end.
func TestP2WhatWasReceivedStays(t *testing.T) {
	e := newEnd(t, even(1, 8, 8))
	var told [][]string
	for i := range 40 {
		bytes := asBytes([]string{text(i, 4), text(i+1, 1)})
		read(t, e, data(0, bytes))
		parts, _ := e.Receive(0)
		told = append(told, parts)
		release(t, e, 0)
	}
	kill(t, e, api.ErrCheck)
	for i, parts := range told {
		if !slices.Equal(parts, []string{text(i, 4), text(i+1, 1)}) {
			t.Errorf("P2: message %d became %q", i, parts)
		}
	}
}

func TestP2EndsDoNotShareWhatComes(t *testing.T) {
	a, b := newEnd(t, plain()), newEnd(t, plain())
	for _, e := range []*skein.End{a, b} {
		read(t, e, data(0, "\x01\x01")[:5])
	}
	read(t, a, "\x02", data(0, "xy"))
	read(t, b, "\x01", data(0, "z"))
	expectReceive(t, a, 0, "xy")
	expectReceive(t, b, 0, "z")
	kill(t, a, api.ErrFrame)
	expectKept(t, b, 0, 3, api.OK)
}
