package skein_test

import (
	"strings"
	"testing"

	"skein/api"
	"skein/skein"
)

// patient is a configuration of four streams by which a message may stand still for so long.
func patient(patience int) api.Config {
	c := even(4, 2, 8)
	c.Patience = patience
	return c
}

// everyPatience does something for each that may be.
func everyPatience(do func(patience int)) {
	for patience := 1; patience <= api.MaxPatience; patience++ {
		do(patience)
	}
}

func expectOpen(t *testing.T, e *skein.End, stream int) {
	t.Helper()
	if f, errno := e.Flow(stream); f.NoReceive || errno != api.OK {
		t.Fatalf("P13: Flow(%d) = %+v, %d: closed for receiving", stream, f, errno)
	}
}

func expectShut(t *testing.T, e *skein.End, stream int) {
	t.Helper()
	if f, errno := e.Flow(stream); !f.NoReceive || errno != api.OK {
		t.Fatalf("P13: Flow(%d) = %+v, %d: open for receiving", stream, f, errno)
	}
}

// expectPatience lets time go by until the stream is closed, in the last of so many units.
func expectPatience(t *testing.T, e *skein.End, stream, patience int) {
	t.Helper()
	tick(e, patience-1)
	expectOpen(t, e, stream)
	expectWrite(t, e, 1000)
	e.Tick()
	expectShut(t, e, stream)
	expectWrite(t, e, 1000, resetted(stream))
}

func TestP13NothingComing(t *testing.T) {
	everyPatience(func(patience int) {
		e := newEnd(t, patient(patience))
		tick(e, 1000)
		// A message that is whole may stay as long as it likes; and one of which no frame is whole is not there.
		read(t, e, data(0, "\x01\x01a\x00"), data(1, "\x00\x00"), data(2, "\x01\x02ab")[:7])
		release(t, e, 1)
		expectWrite(t, e, 1000, credited(1, 1))
		tick(e, 1000)
		expectKept(t, e, 0, 5, api.OK)
		for number := range 4 {
			expectOpen(t, e, number)
		}
		expectReceive(t, e, 0, "a")
		read(t, e, "b")
		expectReceive(t, e, 2, "ab")
		tick(e, 1000)
		expectWrite(t, e, 1000)
		submit(t, e, 3)
		tick(e, 1000)
		expectWrite(t, e, 1000, data(3, "\x00"))
		expectKept(t, e, 0, 9, api.OK)
	})
}

func TestP13StandsStill(t *testing.T) {
	everyPatience(func(patience int) {
		for _, begun := range []string{"\x01", "\x01\x02", "\x03\x00\x00", "\x02\x01\x01ab"[:4], "\x00\x01", "\x01\x01a\x03"} {
			for number := range 4 {
				e := newEnd(t, patient(patience))
				read(t, e, data(number, begun))
				expectPatience(t, e, number, patience)
				expectKept(t, e, 0, 0, api.OK)
				expectFlow(t, e, number, api.Flow{Credit: 250, Owed: 250 - len(begun), NoReceive: true})
				// Once is enough.
				tick(e, 3*patience)
				expectWrite(t, e, 1000)
			}
		}
	})
}

// Time counts from the byte that came last, not from the first time, nor from the first byte.
func TestP13CountsFromTheLastByte(t *testing.T) {
	everyPatience(func(patience int) {
		for ahead := range 12 {
			e := newEnd(t, patient(patience))
			tick(e, ahead)
			read(t, e, data(1, "\x01\x08"))
			for _, b := range "abcdefg" {
				tick(e, patience-1)
				read(t, e, data(1, string(b)))
			}
			expectKept(t, e, 0, 9, api.OK)
			expectPatience(t, e, 1, patience)
			expectNoReceive(t, e, 1, api.ErrClosed)
		}
	})
}

// A byte that comes just ahead of the end of patience is in time, as the last of a message too.
func TestP13WholeInTime(t *testing.T) {
	everyPatience(func(patience int) {
		e := newEnd(t, patient(patience))
		read(t, e, data(2, "\x01\x02a"))
		tick(e, patience-1)
		read(t, e, data(2, "b"))
		tick(e, 100)
		expectReceive(t, e, 2, "ab")
		// The next one has all of its time, however long nothing came.
		read(t, e, data(2, "\x01"))
		expectPatience(t, e, 2, patience)
	})
}

// The frame that ends one message may begin the next one.
func TestP13NextMessageInTheSameFrame(t *testing.T) {
	everyPatience(func(patience int) {
		e := newEnd(t, patient(patience))
		read(t, e, data(2, "\x01\x02a"))
		tick(e, patience-1)
		read(t, e, data(2, "b\x01"))
		expectPatience(t, e, 2, patience)
	})
}

// Only bytes of the message itself give it time: nothing else that comes, and nothing that is done here.
func TestP13WhatGivesNoTime(t *testing.T) {
	others := map[string]func(e *skein.End){
		"nothing":                 func(e *skein.End) {},
		"no byte":                 func(e *skein.End) { read(t, e) },
		"Data of another stream":  func(e *skein.End) { read(t, e, data(0, "\x01\x04"), data(2, "\x00")) },
		"Credit":                  func(e *skein.End) { submit(t, e, 1, "a"); e.Write(1000); read(t, e, credited(1, 3)) },
		"Reset":                   func(e *skein.End) { read(t, e, resetted(1)) },
		"Cancel of another":       func(e *skein.End) { read(t, e, cancelled(2)) },
		"a header":                func(e *skein.End) { read(t, e, data(1, "bc")[:4]) },
		"a frame less a byte":     func(e *skein.End) { read(t, e, data(1, "bc")[:5]) },
		"Receive":                 func(e *skein.End) { expectReceive(t, e, 1) },
		"Release":                 func(e *skein.End) { release(t, e, 1) },
		"Submit, Write":           func(e *skein.End) { submit(t, e, 1, "a"); submit(t, e, 2, "a"); e.Write(1000) },
		"Cancel here":             func(e *skein.End) { cancel(t, e, 1) },
		"State, Flow":             func(e *skein.End) { e.State(); e.Flow(1) },
		"a refusal":               func(e *skein.End) { e.Submit(9, nil); e.Cancel(-1); e.Receive(4); e.Release(3) },
		"another end's Data":      func(e *skein.End) { read(t, newEnd(t, patient(5)), data(1, "\x01")) },
		"another end's long time": func(e *skein.End) { tick(newEnd(t, patient(5)), 100) },
	}
	for what, other := range others {
		for at := range 5 {
			e := newEnd(t, patient(5))
			read(t, e, data(1, "\x00\x01\x04a"))
			tick(e, at)
			other(e)
			tick(e, 4-at)
			if f, _ := e.Flow(1); f.NoReceive {
				t.Errorf("P13: %s behind %d units: closed too early", what, at)
			}
			e.Tick()
			if f, _ := e.Flow(1); !f.NoReceive {
				t.Errorf("P13: %s behind %d units: not closed in time", what, at)
			}
		}
	}
}

// What is held of the stream goes, whole messages too; what is held of others stays, and so does all that goes the other way.
func TestP13ThrowsAway(t *testing.T) {
	e := newEnd(t, patient(2))
	submit(t, e, 1, "abcd")
	expectWrite(t, e, 6, data(1, "\x01\x04"))
	read(t, e, data(1, "\x00\x01\x01a\x00"), data(0, "\x01\x01b"), data(1, "\x02\x01"))
	tick(e, 1)
	expectKept(t, e, 4, 10, api.OK)
	expectReceive(t, e, 1)
	tick(e, 1)
	expectKept(t, e, 4, 3, api.OK)
	expectNoReceive(t, e, 1, api.ErrClosed)
	expectFlow(t, e, 1, api.Flow{Credit: 248, Owed: 243, NoReceive: true})
	expectFlow(t, e, 0, api.Flow{Credit: 250, Owed: 247})
	expectReceive(t, e, 0, "b")
	expectWrite(t, e, 1000, resetted(1), data(1, "ab"), data(1, "cd"))
	submit(t, e, 1, "e")
	read(t, e, credited(1, 6))
	expectWrite(t, e, 1000, data(1, "\x01\x01"), data(1, "e"))
	cancel(t, e, 1)
	expectWrite(t, e, 1000, cancelled(1))
}

func TestP13SeveralInOrder(t *testing.T) {
	orders := [][]int{{0, 1, 2, 3}, {3, 2, 1, 0}, {2, 0, 3, 1}, {3, 1}, {2, 0}}
	for _, order := range orders {
		// Many times, since what goes through a map by its own order is right by chance now and then.
		for range 20 {
			e := newEnd(t, patient(3))
			for _, number := range order {
				read(t, e, data(number, "\x01"))
			}
			tick(e, 3)
			want := ""
			for number := range 4 {
				f, _ := e.Flow(number)
				if begun := f.Owed < 250; begun != f.NoReceive {
					t.Fatalf("P13: Flow(%d) = %+v", number, f)
				}
				if f.NoReceive {
					want += resetted(number)
				}
			}
			if len(want) != 4*len(order) {
				t.Fatalf("P13: Data on %v: %q", order, want)
			}
			expectWrite(t, e, 1000, want)
			expectWrite(t, e, 1000)
		}
	}
}

// Each stream has a time of its own.
func TestP13EachAtItsTime(t *testing.T) {
	e := newEnd(t, patient(3))
	read(t, e, data(3, "\x01"))
	e.Tick()
	read(t, e, data(0, "\x01"), data(2, "\x01"), data(1, "\x00"))
	e.Tick()
	read(t, e, data(2, "\x05"))
	expectWrite(t, e, 1000)
	e.Tick()
	expectWrite(t, e, 1000, resetted(3))
	e.Tick()
	expectWrite(t, e, 1000, resetted(0))
	e.Tick()
	expectWrite(t, e, 1000, resetted(2))
	tick(e, 10)
	expectWrite(t, e, 1000)
	expectKept(t, e, 0, 1, api.OK)
}

// Reset stands behind the frames that were to be sent ahead of it, and ahead of those that came to be later, and of all Data.
func TestP8PlaceOfReset(t *testing.T) {
	e := newEnd(t, patient(1))
	submit(t, e, 0, "ab")
	expectWrite(t, e, 3, data(0, "\x01\x02")[:3])
	read(t, e, data(2, "\x00\x00"), data(1, "\x01"), data(0, "\x02"))
	release(t, e, 2)
	cancel(t, e, 3)
	e.Tick()
	release(t, e, 2)
	cancel(t, e, 1)
	read(t, e, data(3, "\x01"))
	e.Tick()
	submit(t, e, 2)
	expectWrite(t, e, 1000, data(0, "\x01\x02")[3:], credited(2, 1), cancelled(3), resetted(0), resetted(1), credited(2, 1), cancelled(1), resetted(3), data(2, "\x00"), data(0, "ab"))
}

func TestP8ResetInAnyPortions(t *testing.T) {
	for given := 1; given < 8; given++ {
		e := newEnd(t, patient(1))
		read(t, e, data(0, "\x01"), data(2, "\x01"))
		e.Tick()
		want := resetted(0) + resetted(2)
		expectWrite(t, e, given, want[:given])
		cancel(t, e, 3)
		expectWrite(t, e, 1000, want[given:], cancelled(3))
	}
}

// Behind a Cancel nothing of the stream is coming, and it is closed: no Reset.
func TestP13NoResetBehindCancel(t *testing.T) {
	everyPatience(func(patience int) {
		for at := range patience {
			e := newEnd(t, patient(patience))
			read(t, e, data(1, "\x01\x02a"), data(2, "\x01"))
			tick(e, at)
			read(t, e, cancelled(1))
			tick(e, 100)
			expectWrite(t, e, 1000, resetted(2))
			expectFlow(t, e, 1, api.Flow{Credit: 250, Owed: 247, NoReceive: true})
		}
	})
}

// A stream that is closed for sending may yet be reset: that is the other way.
func TestP13ClosedForSending(t *testing.T) {
	e := newEnd(t, patient(2))
	cancel(t, e, 0)
	read(t, e, resetted(1), data(0, "\x01"), data(1, "\x01"))
	tick(e, 2)
	expectWrite(t, e, 1000, cancelled(0), resetted(0), resetted(1))
	for number := range 2 {
		expectFlow(t, e, number, api.Flow{Credit: 250, Owed: 249, NoSend: true, NoReceive: true})
	}
}

// afterReset is an end by plain that has reset stream 0, and holds a message of stream 1.
func afterReset(t *testing.T) *skein.End {
	t.Helper()
	e := newEnd(t, plain())
	read(t, e, data(0, "\x00\x01\x03"), data(1, "\x00"))
	tick(e, 2)
	expectWrite(t, e, 1000, resetted(0))
	return e
}

func TestP13DataBehindItsReset(t *testing.T) {
	flow := api.Flow{Credit: 20, Owed: 17, NoReceive: true}
	for _, payload := range []string{"a", "abc", "\x00", "\x01", "\x04", "\xff\xff\xff", "\x01\x10"} {
		e := afterReset(t)
		// More than was owed, and no time runs for it.
		for range 30 {
			read(t, e, data(0, payload))
			e.Tick()
			expectKept(t, e, 0, 1, api.OK)
			expectFlow(t, e, 0, flow)
			expectNoReceive(t, e, 0, api.ErrClosed)
			expectReceive(t, e, 1)
		}
		expectWrite(t, e, 1000)
		// Its frames must still be frames.
		expectRead(t, e, data(0, "abcd")[:4], api.ErrFrame)
	}
	e := afterReset(t)
	expectRead(t, e, data(0, ""), api.ErrFrame)
	e = afterReset(t)
	expectRead(t, e, data(0, "a")[:3]+"\x00", api.ErrCheck)
	// The other stream is held to what it is owed, as before.
	e = afterReset(t)
	read(t, e, strings.Repeat(data(1, "\x00"), 19))
	expectRead(t, e, data(1, "\x00")[:4], api.ErrCredit)
}

// However little is owed when a stream is reset, Data of any length may be on its way.
func TestP13NotHeldToOwed(t *testing.T) {
	for owed := range 4 {
		e := newEnd(t, plain())
		read(t, e, strings.Repeat(data(0, "\x00"), 20-owed-1), data(0, "\x01"))
		tick(e, 1)
		expectFlow(t, e, 0, api.Flow{Credit: 20, Owed: owed})
		tick(e, 1)
		for length := 1; length <= 3; length++ {
			read(t, e, data(0, text(0, length)), data(0, text(9, length)))
			expectFlow(t, e, 0, api.Flow{Credit: 20, Owed: owed, NoReceive: true})
		}
	}
}

func TestP13CancelBehindItsReset(t *testing.T) {
	flow := api.Flow{Credit: 20, Owed: 17, NoReceive: true}
	for _, between := range []string{"", data(0, "\xff"), strings.Repeat(data(0, "abc"), 10)} {
		e := afterReset(t)
		read(t, e, between, cancelled(0))
		expectFlow(t, e, 0, flow)
		expectKept(t, e, 0, 1, api.OK)
		expectNoReceive(t, e, 0, api.ErrClosed)
		tick(e, 5)
		expectWrite(t, e, 1000)
		expectRead(t, e, cancelled(0), api.ErrFrame)

		e = afterReset(t)
		read(t, e, between, cancelled(0))
		expectRead(t, e, data(0, "\x00")[:4], api.ErrCredit)
	}
}

func TestP13ResetBehindItsReset(t *testing.T) {
	e := afterReset(t)
	submit(t, e, 0, "abcd")
	read(t, e, resetted(0))
	expectFlow(t, e, 0, api.Flow{Credit: 20, Owed: 17, NoSend: true, NoReceive: true})
	expectKept(t, e, 0, 1, api.OK)
	expectWrite(t, e, 1000)
	// Data of the other end may be on its way all the same.
	read(t, e, data(0, "\xff"), cancelled(0))
	expectRead(t, e, resetted(0), api.ErrFrame)
}

func TestP13CreditBehindItsReset(t *testing.T) {
	e := afterReset(t)
	submit(t, e, 0, "abcd")
	expectWrite(t, e, 1000, data(0, "\x01\x04"), data(0, "ab"), data(0, "cd"))
	read(t, e, credited(0, 6))
	expectFlow(t, e, 0, api.Flow{Credit: 20, Owed: 17, NoReceive: true})
	expectRead(t, e, credited(0, 1), api.ErrCredit)
}

// Whatever part of a Data frame is there when its stream is reset, the frame is thrown away, and the next one is in its place.
func TestP13FrameHalfThere(t *testing.T) {
	frame := data(0, "\x04\xff\x04")
	for n := range len(frame) + 1 {
		e := newEnd(t, plain())
		read(t, e, data(0, "\x01"))
		e.Tick()
		if n < len(frame) {
			read(t, e, frame[:n])
		}
		e.Tick()
		expectFlow(t, e, 0, api.Flow{Credit: 20, Owed: 19, NoReceive: true})
		read(t, e, frame[n%len(frame):], data(1, "\x01\x01z"), cancelled(0))
		expectKept(t, e, 0, 3, api.OK)
		expectFlow(t, e, 0, api.Flow{Credit: 20, Owed: 19, NoReceive: true})
		expectReceive(t, e, 1, "z")
	}
}

// Nothing that was to be granted is lost by a reset, and nothing more is granted for what it throws away.
func TestP13CreditThatIsToBeSent(t *testing.T) {
	e := newEnd(t, plain())
	read(t, e, data(0, "\x00\x00\x01"))
	release(t, e, 0)
	tick(e, 2)
	expectNoReceive(t, e, 0, api.ErrClosed)
	expectWrite(t, e, 1000, credited(0, 1), resetted(0))
	expectFlow(t, e, 0, api.Flow{Credit: 20, Owed: 18, NoReceive: true})
}

func TestP13OfADeadEnd(t *testing.T) {
	for _, of := range causes() {
		for at := range 4 {
			e := newEnd(t, patient(3))
			read(t, e, data(1, "\x00\x01\x05"), data(2, "\x01"))
			tick(e, at)
			kill(t, e, of)
			for range 10 {
				expectKept(t, e, 0, 0, of)
				for number := range 4 {
					expectFlow(t, e, number, api.Flow{NoSend: true, NoReceive: true})
				}
				e.Tick()
			}
			// A Reset that was to be sent is thrown away.
			expectWrite(t, e, 1000, last(of))
			tick(e, 10)
			expectWrite(t, e, 1000)
		}
	}
}

// A Reset of which a byte was given is given whole, ahead of Away.
func TestP15ResetThatWasBegun(t *testing.T) {
	for _, of := range causes() {
		for given := 1; given <= 8; given++ {
			e := newEnd(t, patient(1))
			read(t, e, data(1, "\x01"), data(2, "\x01"), data(3, "\x01"))
			e.Tick()
			line := resetted(1) + resetted(2)
			expectWrite(t, e, given, line[:given])
			kill(t, e, of)
			e.Tick()
			begun := line[given:8]
			if given <= 4 {
				begun = line[given:4]
			}
			expectWrite(t, e, 1000, begun, last(of))
			expectWrite(t, e, 1000)
		}
	}
}

// The end that reads Reset throws its queue away, and both go on with all else.
func TestP13TheOtherEnd(t *testing.T) {
	a, b := newEnd(t, plain()), newEnd(t, plain())
	submit(t, a, 0, "abcdefgh")
	submit(t, a, 0, "more")
	submit(t, a, 1, "xyz")
	read(t, b, a.Write(6))
	tick(b, 2)
	submit(t, b, 0, "back")
	// Data that is on its way when Reset comes, and a Cancel that crosses it.
	line := a.Write(20)
	cancel(t, a, 0)
	read(t, a, b.Write(1000))
	expectReceive(t, a, 0, "back")
	expectFlow(t, a, 0, api.Flow{Credit: 16, Owed: 14, NoSend: true})
	read(t, b, line, a.Write(1000))
	expectReceive(t, b, 1, "xyz")
	expectNoReceive(t, b, 0, api.ErrClosed)
	expectKept(t, a, 0, 6, api.OK)
	expectKept(t, b, 0, 5, api.OK)
}

// Tick has no more to do behind a very long time than behind a short one.
func TestP1ManyTicks(t *testing.T) {
	e := newEnd(t, patient(9))
	tick(e, 1<<20)
	read(t, e, data(0, "\x01"))
	expectPatience(t, e, 0, 9)
	tick(e, 1<<20)
	expectWrite(t, e, 1000)
}

// What one end makes of time is nothing to another.
func TestP2TicksOfOneEnd(t *testing.T) {
	a, b := newEnd(t, plain()), newEnd(t, plain())
	for _, e := range []*skein.End{a, b} {
		read(t, e, data(0, "\x01"))
	}
	e := newEnd(t, plain())
	tick(e, 50)
	tick(a, 2)
	expectShut(t, a, 0)
	expectOpen(t, b, 0)
	expectPatience(t, b, 0, 2)
}
