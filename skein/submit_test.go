package skein_test

import (
	"math"
	"slices"
	"strings"
	"testing"

	"skein/api"
	"skein/skein"
)

// refusal is the first one that P6 names of those that apply.
func refusal(dead, strange, long, closed, full bool) api.Errno {
	switch {
	case dead:
		return api.ErrDead
	case strange:
		return api.ErrStream
	case long:
		return api.ErrLong
	case closed:
		return api.ErrClosed
	case full:
		return api.ErrFull
	}
	return api.OK
}

func TestP6RefusalsInOrder(t *testing.T) {
	long := [][]string{make([]string, 4), {text(0, 16)}, sized(0, 21), sized(0, 49)}
	for bits := range 1 << 4 {
		dead, strange, closed, full := bits&1 != 0, bits&2 != 0, bits&4 != 0, bits&8 != 0
		for i, parts := range append(long, sized(0, 20)) {
			c := plain()
			c.Queue = 39
			e := newEnd(t, c)
			queued := 0
			if closed {
				cancel(t, e, 0)
			}
			if full {
				submit(t, e, 1, sized(0, 20)...)
				queued = 20
			}
			if dead {
				kill(t, e, api.ErrFrame)
				queued = 0
			}
			stream := 0
			if strange {
				stream = 2
			}
			want := refusal(dead, strange, i < len(long), closed, full)
			if errno := e.Submit(stream, parts); errno != want {
				t.Errorf("P6: Submit(%d, %q) = %d, want %d (dead %v, closed %v, full %v)", stream, parts, errno, want, dead, closed, full)
			}
			if want == api.OK {
				queued += 20
			}
			if got := e.State().Queued; got != queued {
				t.Errorf("P1: Queued is %d behind %d, want %d", got, want, queued)
			}
		}
	}
}

func TestP6NoSuchStream(t *testing.T) {
	for streams := 1; streams <= api.MaxStreams; streams++ {
		e := newEnd(t, even(streams, 1, 1))
		for _, number := range []int{math.MinInt, -1, streams, streams + 1, 256, 1 << 32, math.MaxInt} {
			for _, parts := range [][]string{nil, {"a"}, make([]string, 4)} {
				if errno := e.Submit(number, parts); errno != api.ErrStream {
					t.Errorf("P6: Submit(%d) of %d streams = %d", number, streams, errno)
				}
			}
		}
		expectState(t, e, 0)
		expectWrite(t, e, 1000)
	}
}

func TestP6WindowEdge(t *testing.T) {
	for window := api.MinWindow; window <= 60; window++ {
		c := even(1, 8, 8)
		c.Window = window
		for size := 2; size <= 49; size++ {
			e := newEnd(t, c)
			want := api.OK
			if size > window {
				want = api.ErrLong
			}
			if errno := e.Submit(0, sized(0, size)); errno != want {
				t.Errorf("P6: Submit of %d bytes = %d with a Window of %d, want %d", size, errno, window, want)
			}
		}
	}
}

func TestP6QueueEdge(t *testing.T) {
	for queue := 1; queue <= 110; queue++ {
		c := even(2, 8, 8)
		c.Queue = queue
		e := newEnd(t, c)
		queued := 0
		for i := range 6 {
			size := []int{49, 7, 2}[i%3]
			want := api.ErrFull
			if queued+size <= queue {
				want, queued = api.OK, queued+size
			}
			if errno := e.Submit(i%2, sized(i, size)); errno != want {
				t.Errorf("P6: Submit of %d bytes = %d, want %d: %d of %d are queued", size, errno, want, queued, queue)
			}
			expectState(t, e, queued)
		}
	}
}

func TestP6ManySmallMessages(t *testing.T) {
	e := newEnd(t, even(4, 1, 1))
	for i := range 600 {
		submit(t, e, i%4)
	}
	expectState(t, e, 600)
	if errno := e.Submit(0, nil); errno != api.ErrFull {
		t.Errorf("P6: Submit of one byte too many = %d", errno)
	}
	frames := cut(t, e.Write(math.MaxInt))
	for i, f := range frames {
		if f != (sent{api.Data, i % 4, "\x00"}) {
			t.Fatalf("P9: frame %d is %+v", i, f)
		}
	}
	if len(frames) != 600 {
		t.Errorf("P8: %d frames", len(frames))
	}
	expectState(t, e, 0)
}

func TestP6RoomComesBackWithFrames(t *testing.T) {
	c := plain()
	c.Queue = 6
	e := newEnd(t, c)
	submit(t, e, 0, "abcd")
	// The first byte of a frame is enough: all of it is in the frame, and no longer in the queue.
	expectWrite(t, e, 1, "\x01")
	expectState(t, e, 4)
	if errno := e.Submit(1, []string{"a"}); errno != api.ErrFull {
		t.Errorf("P6: Submit of 3 bytes = %d where 2 are free", errno)
	}
	submit(t, e, 1, "")
	expectState(t, e, 6)
	expectWrite(t, e, 1000, data(0, "\x01\x04")[1:], data(1, "\x01\x00"), data(0, "ab"), data(0, "cd"))
}

func TestP6LastOfTheQueue(t *testing.T) {
	e := newEnd(t, even(2, 8, 8))
	var want string
	for i, parts := range [][]string{{"ab", ""}, nil, {text(3, 15), text(5, 15), text(9, 15)}, {""}, {"\xff\x00"}} {
		submit(t, e, 1, parts...)
		want += asBytes(parts)
		expectState(t, e, len(want))
		if i == 0 {
			submit(t, e, 0)
			expectWrite(t, e, 5, data(0, "\x00"))
		}
	}
	var got string
	for _, f := range cut(t, e.Write(1000)) {
		if f.kind != api.Data || f.stream != 1 {
			t.Fatalf("P9: %+v", f)
		}
		got += f.payload
	}
	if got != want {
		t.Errorf("P6: the messages went as %q, want %q", got, want)
	}
}

// Behind a refusal everything goes on as if the call had never been made.
func TestP1RefusalsChangeNothing(t *testing.T) {
	calls := func(e *skein.End) {
		for _, stream := range []int{-1, 0, 1, 2, math.MaxInt} {
			for _, parts := range [][]string{make([]string, 4), {text(0, 16)}, sized(0, 21)} {
				if e.Submit(stream, parts) == api.OK {
					t.Fatalf("P6: Submit(%d, %q) is OK", stream, parts)
				}
			}
		}
		for _, stream := range []int{-1, 2, math.MinInt} {
			if e.Cancel(stream) == api.OK {
				t.Fatalf("P7: Cancel(%d) is OK", stream)
			}
			e.Flow(stream)
		}
	}
	left, right := newEnd(t, plain()), newEnd(t, plain())
	step := func(do func(e *skein.End) string) {
		t.Helper()
		calls(left)
		if a, b := do(left), do(right); a != b || left.State() != right.State() {
			t.Fatalf("P1: %q and %q, %+v and %+v", a, b, left.State(), right.State())
		}
	}
	for i := range 2 {
		step(func(e *skein.End) string { submit(t, e, i, "abcdefgh"); return "" })
	}
	for range 20 {
		step(func(e *skein.End) string { return e.Write(3) })
	}
	step(func(e *skein.End) string { cancel(t, e, 0); return "" })
	step(func(e *skein.End) string { return e.Write(1000) })
}

func TestP2SubmitKeepsNothing(t *testing.T) {
	e := newEnd(t, even(1, 8, 8))
	parts := []string{"ab", "c", "room", "behind"}
	submit(t, e, 0, parts[:2]...)
	if errno := e.Submit(0, parts[:2:4]); errno != api.OK {
		t.Fatal(errno)
	}
	if !slices.Equal(parts, []string{"ab", "c", "room", "behind"}) {
		t.Errorf("P2: behind Submit: %q", parts)
	}
	parts[0], parts[1] = "other", "others"
	line := e.Write(1000)
	// A turn is worth 8 bytes: the second message goes in two frames.
	if want := data(0, "\x02\x02\x01abc") + data(0, "\x02\x02") + data(0, "\x01abc"); line != want {
		t.Errorf("P2: Write = %q, want %q", line, want)
	}
	long := strings.Repeat("x", 10)
	submit(t, e, 0, long)
	if line := e.Write(1000); overlap(line, long) || len(line) != 12+8 {
		t.Errorf("P2: what is written (%q) keeps what was handed in", line)
	}
}
