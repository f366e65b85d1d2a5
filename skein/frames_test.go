package skein_test

import (
	"strings"
	"testing"

	"skein/api"
)

func TestP11Data(t *testing.T) {
	e := newEnd(t, plain())
	read(t, e, data(0, "\x02\x02\x01"), data(0, "ab"))
	expectKept(t, e, 0, 5, api.OK)
	expectFlow(t, e, 0, api.Flow{Credit: 20, Owed: 15})
	expectFlow(t, e, 1, api.Flow{Credit: 20, Owed: 20})
	expectNoReceive(t, e, 0, api.ErrNone)
	read(t, e, data(0, "c"))
	expectKept(t, e, 0, 6, api.OK)
	expectFlow(t, e, 0, api.Flow{Credit: 20, Owed: 14})
	expectReceive(t, e, 0, "ab", "c")
	expectNoReceive(t, e, 1, api.ErrNone)
	expectWrite(t, e, 1000)
}

// A frame holds bytes of any number of messages, and a message those of any frames.
func TestP11DataOfSeveralMessages(t *testing.T) {
	messages := [][]string{{"abc"}, {}, {"", "", ""}, {"x", "yz"}, {""}, {"\xff\x00\xc3"}, {}}
	whole := ""
	for _, parts := range messages {
		whole += asBytes(parts)
	}
	for chunk := 1; chunk <= 8; chunk++ {
		for first := 1; first <= chunk; first++ {
			e := newEnd(t, even(2, 1, chunk))
			read(t, e, data(1, whole[:first]))
			for rest := whole[first:]; rest != ""; rest = rest[min(chunk, len(rest)):] {
				read(t, e, data(0, "\x00"), data(1, rest[:min(chunk, len(rest))]))
			}
			for _, parts := range messages {
				expectReceive(t, e, 1, parts...)
				release(t, e, 1)
			}
			expectNoReceive(t, e, 1, api.ErrNone)
			expectFlow(t, e, 1, api.Flow{Credit: 250, Owed: 250})
		}
	}
}

// Nothing of a frame is done ahead of its last byte.
func TestP11NotAheadOfTheLastByte(t *testing.T) {
	for _, frame := range []string{data(1, "\x00\x00\x01"), credited(1, 2), cancelled(1), resetted(1)} {
		e := newEnd(t, plain())
		submit(t, e, 1)
		submit(t, e, 1, "abc")
		expectWrite(t, e, 5, data(1, "\x00"))
		expectWrite(t, e, 1, "\x01")
		read(t, e, data(1, "\x00"))
		before, _ := e.Flow(1)
		for i := range len(frame) - 1 {
			read(t, e, frame[i:i+1])
			expectKept(t, e, 2, 1, api.OK)
			expectFlow(t, e, 1, before)
			expectReceive(t, e, 1)
		}
		read(t, e, frame[len(frame)-1:])
		if after, _ := e.Flow(1); after == before {
			t.Errorf("P11: %q does nothing", frame)
		}
	}
}

func TestP11Credit(t *testing.T) {
	c := small(8, 1, 1)
	e := newEnd(t, c)
	submit(t, e, 1, "abcdef")
	submit(t, e, 1, "gh")
	expectWrite(t, e, 1000, data(1, "\x01\x06abcdef"))
	read(t, e, credited(1, 1))
	expectFlow(t, e, 1, api.Flow{Credit: 1, Owed: 8})
	expectFlow(t, e, 0, api.Flow{Credit: 8, Owed: 8})
	read(t, e, credited(1, 2))
	expectFlow(t, e, 1, api.Flow{Credit: 3, Owed: 8})
	expectWrite(t, e, 1000, data(1, "\x01\x02g"))
	read(t, e, credited(1, 8))
	expectWrite(t, e, 1000, data(1, "h"))
	expectFlow(t, e, 1, api.Flow{Credit: 7, Owed: 8})
}

// What is granted to a stream that is closed for sending counts all the same.
func TestP11CreditOfAClosedStream(t *testing.T) {
	e := newEnd(t, plain())
	submit(t, e, 0, "abcd")
	e.Write(1000)
	cancel(t, e, 0)
	read(t, e, credited(0, 2), resetted(0), credited(0, 3))
	expectFlow(t, e, 0, api.Flow{Credit: 19, Owed: 20, NoSend: true})
	expectRead(t, e, credited(0, 2), api.ErrCredit)
}

func TestP11Cancel(t *testing.T) {
	e := newEnd(t, plain())
	submit(t, e, 0, "abcd")
	read(t, e, data(0, "\x00\x01\x01"), data(0, "z\x03\x00"), data(1, "\x00\x01"))
	expectKept(t, e, 6, 8, api.OK)
	read(t, e, cancelled(0))
	expectKept(t, e, 6, 2, api.OK)
	expectFlow(t, e, 0, api.Flow{Credit: 20, Owed: 14, NoReceive: true})
	expectFlow(t, e, 1, api.Flow{Credit: 20, Owed: 18})
	expectNoReceive(t, e, 0, api.ErrClosed)
	expectReceive(t, e, 1)
	// The other way the stream goes on.
	submit(t, e, 0, "e")
	expectWrite(t, e, 1000, data(0, "\x01\x04"), data(0, "ab"), data(0, "cd"), data(0, "\x01\x01"), data(0, "e"))
	read(t, e, credited(0, 6), cancelled(1))
	expectFlow(t, e, 1, api.Flow{Credit: 20, Owed: 18, NoReceive: true})
	expectKept(t, e, 0, 0, api.OK)
}

// What was to be granted for messages that were released is still granted.
func TestP11CancelLeavesFramesThatAreToBeSent(t *testing.T) {
	e := newEnd(t, plain())
	read(t, e, data(0, "\x00\x00"))
	release(t, e, 0)
	read(t, e, cancelled(0))
	expectWrite(t, e, 1000, credited(0, 1))
}

func TestP11Reset(t *testing.T) {
	e := newEnd(t, even(2, 5, 2))
	submit(t, e, 0, "abcdefgh")
	submit(t, e, 0, "more")
	submit(t, e, 1, "x")
	read(t, e, data(0, "\x00\x01"))
	expectWrite(t, e, 3, data(0, "\x01\x08")[:3])
	expectFlow(t, e, 0, api.Flow{Credit: 248, Owed: 248, Deficit: 3})
	expectKept(t, e, 8+6+3, 2, api.OK)
	read(t, e, resetted(0))
	expectFlow(t, e, 0, api.Flow{Credit: 248, Owed: 248, NoSend: true})
	expectKept(t, e, 3, 2, api.OK)
	if errno := e.Submit(0, nil); errno != api.ErrClosed {
		t.Errorf("P6: Submit on a stream that was reset = %d", errno)
	}
	if errno := e.Cancel(0); errno != api.ErrClosed {
		t.Errorf("P7: Cancel of a stream that was reset = %d", errno)
	}
	// No Cancel comes of it, and the frame that was begun is given whole.
	expectWrite(t, e, 1000, data(0, "\x01\x08")[3:], data(1, "\x01\x01"), data(1, "x"))
	// The other way the stream goes on.
	read(t, e, data(0, "\x01z"))
	expectReceive(t, e, 0)
	release(t, e, 0)
	expectReceive(t, e, 0, "z")
	expectWrite(t, e, 1000, credited(0, 1))
}

// Reset and Cancel may each come once for each stream, whatever this end did.
func TestP11EachOnce(t *testing.T) {
	e := newEnd(t, even(4, 1, 1))
	cancel(t, e, 0)
	cancel(t, e, 3)
	for number := range 4 {
		read(t, e, resetted(number))
	}
	for number := range 4 {
		read(t, e, cancelled(number))
		expectFlow(t, e, number, api.Flow{Credit: 250, Owed: 250, NoSend: true, NoReceive: true})
	}
	expectWrite(t, e, 1000, cancelled(0), cancelled(3))
	expectRead(t, e, resetted(3), api.ErrFrame)
}

// Of a stream that this end has reset, Data is thrown away, whatever it is; but not what comes behind a Cancel.
func TestP11DataOfAStreamThatWasReset(t *testing.T) {
	e := newEnd(t, plain())
	read(t, e, data(0, "\x00\x01\x02"), data(1, "\x00"))
	tick(e, plain().Patience)
	flow := api.Flow{Credit: 20, Owed: 17, NoReceive: true}
	for _, payload := range []string{"ab\x00", "\x04", "\x01\xff", "\x00"} {
		read(t, e, strings.Repeat(data(0, payload), 20))
		expectKept(t, e, 0, 1, api.OK)
		expectFlow(t, e, 0, flow)
		expectNoReceive(t, e, 0, api.ErrClosed)
	}
	expectRead(t, e, data(0, "abcd")[:3], api.OK)
	expectRead(t, e, data(0, "abcd")[3:4], api.ErrFrame)

	e = newEnd(t, plain())
	read(t, e, data(0, "\x01"))
	tick(e, plain().Patience)
	read(t, e, data(0, "\xff"), cancelled(0))
	expectFlow(t, e, 0, api.Flow{Credit: 20, Owed: 19, NoReceive: true})
	expectRead(t, e, data(0, "\x00")[:4], api.ErrCredit)
}

// A frame that was half there when the stream was reset is thrown away, too.
func TestP11DataHalfThereWhenTheStreamIsReset(t *testing.T) {
	frame := data(0, "\x04\x04\x04")
	for n := range len(frame) {
		e := newEnd(t, plain())
		read(t, e, data(0, "\x01"), frame[:n])
		tick(e, plain().Patience)
		read(t, e, frame[n:], data(1, "\x00"))
		expectKept(t, e, 0, 1, api.OK)
		expectFlow(t, e, 0, api.Flow{Credit: 20, Owed: 19, NoReceive: true})
	}
}
