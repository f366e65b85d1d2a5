package skein_test

import (
	"math"
	"testing"

	"skein/api"
)

func TestP7RefusalsInOrder(t *testing.T) {
	for bits := range 1 << 3 {
		dead, strange, closed := bits&1 != 0, bits&2 != 0, bits&4 != 0
		e := newEnd(t, plain())
		stream := 1
		if closed {
			cancel(t, e, 1)
		}
		if strange {
			stream = 2
		}
		if dead {
			kill(t, e, api.ErrTable)
		}
		want := refusal(dead, strange, false, closed, false)
		if errno := e.Cancel(stream); errno != want {
			t.Errorf("P7: Cancel(%d) = %d, want %d (dead %v, closed %v)", stream, errno, want, dead, closed)
		}
	}
}

func TestP7NoSuchStream(t *testing.T) {
	for streams := 1; streams <= api.MaxStreams; streams++ {
		e := newEnd(t, even(streams, 1, 1))
		for _, number := range []int{math.MinInt, -1, streams, streams + 1, 256, 1 << 32, math.MaxInt} {
			if errno := e.Cancel(number); errno != api.ErrStream {
				t.Errorf("P7: Cancel(%d) of %d streams = %d", number, streams, errno)
			}
		}
		expectWrite(t, e, 1000)
	}
}

func TestP7EmptiesItsQueueAlone(t *testing.T) {
	e := newEnd(t, plain())
	submit(t, e, 0, "abcd")
	submit(t, e, 0, "more")
	submit(t, e, 1, "xyz")
	cancel(t, e, 0)
	expectState(t, e, 5)
	expectFlow(t, e, 0, api.Flow{Credit: 20, Owed: 20, NoSend: true})
	expectFlow(t, e, 1, api.Flow{Credit: 20, Owed: 20})
	if errno := e.Cancel(0); errno != api.ErrClosed {
		t.Errorf("P7: Cancel again = %d", errno)
	}
	if errno := e.Submit(0, nil); errno != api.ErrClosed {
		t.Errorf("P6: Submit on a stream that was cancelled = %d", errno)
	}
	submit(t, e, 1)
	expectWrite(t, e, 1000, cancelled(0), data(1, "\x01\x03x"), data(1, "y"), data(1, "z"), data(1, "\x00"))
	if errno := e.Cancel(0); errno != api.ErrClosed {
		t.Errorf("P7: Cancel behind its frame = %d", errno)
	}
	expectWrite(t, e, 1000)
}

func TestP7RoomComesBack(t *testing.T) {
	c := plain()
	c.Queue = 12
	e := newEnd(t, c)
	submit(t, e, 0, "abcd")
	submit(t, e, 1, "abcd")
	if errno := e.Submit(1, []string{"efgh"}); errno != api.ErrFull {
		t.Errorf("P6: Submit = %d", errno)
	}
	cancel(t, e, 0)
	submit(t, e, 1, "efgh")
	expectState(t, e, 12)
}

func TestP7FramesInTheOrderOfTheCalls(t *testing.T) {
	e := newEnd(t, even(4, 1, 1))
	for number := range 4 {
		submit(t, e, number, "a")
	}
	for _, number := range []int{2, 0, 3} {
		cancel(t, e, number)
	}
	expectWrite(t, e, 6, cancelled(2), cancelled(0)[:2])
	cancel(t, e, 1)
	expectState(t, e, 0)
	expectWrite(t, e, 1000, cancelled(0)[2:], cancelled(3), cancelled(1))
	expectWrite(t, e, 1000)
}

// A frame whose first byte was given is given whole, whatever becomes of its stream.
func TestP7InTheMidstOfAFrame(t *testing.T) {
	for given := 1; given <= 7; given++ {
		e := newEnd(t, plain())
		submit(t, e, 1, "abcd")
		submit(t, e, 0, "z")
		first := data(0, "\x01\x01") + data(1, "\x01\x04a")
		expectWrite(t, e, 6+given, first[:6+given])
		cancel(t, e, 1)
		expectFlow(t, e, 1, api.Flow{Credit: 17, Owed: 20, NoSend: true})
		expectState(t, e, 1)
		expectWrite(t, e, 1000, first[6+given:], cancelled(1), data(0, "z"))
	}
}

// What is left of a turn goes with the stream that is cancelled; the next one's turn begins.
func TestP7InTheMidstOfATurn(t *testing.T) {
	e := newEnd(t, even(3, 5, 2))
	for number := range 3 {
		submit(t, e, number, "abcdefgh")
	}
	expectWrite(t, e, 6, data(0, "\x01\x08"))
	expectFlow(t, e, 0, api.Flow{Credit: 248, Owed: 250, Deficit: 3})
	cancel(t, e, 0)
	expectFlow(t, e, 0, api.Flow{Credit: 248, Owed: 250, NoSend: true})
	expectWrite(t, e, 4+6+6+5, cancelled(0), data(1, "\x01\x08"), data(1, "ab"), data(1, "c"))
	expectWrite(t, e, 6, data(2, "\x01\x08"))
	cancel(t, e, 2)
	expectWrite(t, e, 1000, cancelled(2), data(1, "de"), data(1, "fg"), data(1, "h"))
	expectFlow(t, e, 1, api.Flow{Credit: 240, Owed: 250})
}

func TestP7OfTheOnlyOneThatSends(t *testing.T) {
	e := newEnd(t, even(2, 5, 2))
	submit(t, e, 1, "abcdefgh")
	expectWrite(t, e, 6, data(1, "\x01\x08"))
	cancel(t, e, 1)
	expectWrite(t, e, 1000, cancelled(1))
	expectWrite(t, e, 1000)
	submit(t, e, 0, "abcd")
	expectWrite(t, e, 1000, data(0, "\x01\x04"), data(0, "ab"), data(0, "c"), data(0, "d"))
}
