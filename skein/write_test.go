package skein_test

import (
	"math"
	"testing"

	"skein/api"
	"skein/skein"
)

// busy is an end with messages on three streams, of which one is cancelled.
func busy(t *testing.T) *skein.End {
	t.Helper()
	c := even(4, 3, 4)
	c.Weights = [4]int{1, 3, 2, 4}
	e := newEnd(t, c)
	for number := range 4 {
		submit(t, e, number, sized(number, 20+7*number)...)
		submit(t, e, number, sized(number, 11)...)
	}
	cancel(t, e, 2)
	return e
}

func TestP8AnyPortions(t *testing.T) {
	whole := busy(t).Write(1000)
	if frames := cut(t, whole); len(frames) < 30 {
		t.Fatalf("%d frames", len(frames))
	}
	for most := 1; most <= len(whole)+1; most++ {
		e, line := busy(t), ""
		for len(line) < len(whole) {
			part := e.Write(most)
			if len(part) != min(most, len(whole)-len(line)) {
				t.Fatalf("P8: Write(%d) gives %d bytes where %d are left", most, len(part), len(whole)-len(line))
			}
			line += part
		}
		if line != whole {
			t.Fatalf("P8: in portions of %d: %q, want %q", most, line, whole)
		}
		expectWrite(t, e, most)
	}
}

func TestP8NoneBelowOne(t *testing.T) {
	whole := busy(t).Write(math.MaxInt)
	e := busy(t)
	before := e.State()
	for i := range len(whole) {
		for _, most := range []int{0, -1, -1 << 40, math.MinInt} {
			expectWrite(t, e, most)
		}
		if i == 0 && e.State() != before {
			t.Fatalf("P8: Write of no bytes: %+v, then %+v", before, e.State())
		}
		expectWrite(t, e, 1, whole[i:i+1])
	}
	for _, most := range []int{math.MinInt, 0, 1, math.MaxInt} {
		expectWrite(t, e, most)
	}
}

// A frame is chosen when its first byte is asked for, and not ahead of that.
func TestP8ChosenWithTheFirstByte(t *testing.T) {
	e := newEnd(t, even(2, 8, 4))
	submit(t, e, 0, "abcd")
	expectWrite(t, e, 0)
	expectState(t, e, 6)
	expectFlow(t, e, 0, api.Flow{Credit: 250, Owed: 250})
	expectWrite(t, e, 1, "\x01")
	expectState(t, e, 2)
	expectFlow(t, e, 0, api.Flow{Credit: 246, Owed: 250, Deficit: 4})
	expectWrite(t, e, 7, data(0, "\x01\x04ab")[1:])
	expectState(t, e, 2)
	expectFlow(t, e, 0, api.Flow{Credit: 246, Owed: 250, Deficit: 4})
	cancel(t, e, 1)
	expectWrite(t, e, 4, cancelled(1))
	expectState(t, e, 2)
	expectWrite(t, e, 1000, data(0, "cd"))
	expectFlow(t, e, 0, api.Flow{Credit: 244, Owed: 250})
}

func TestP8WaitingFramesGoFirst(t *testing.T) {
	e := newEnd(t, even(3, 2, 2))
	submit(t, e, 0, "ab")
	submit(t, e, 2, "xy")
	expectWrite(t, e, 3, data(0, "\x01\x02")[:3])
	cancel(t, e, 2)
	cancel(t, e, 1)
	expectWrite(t, e, 4, data(0, "\x01\x02")[3:], cancelled(2)[:1])
	submit(t, e, 0)
	expectWrite(t, e, 1000, cancelled(2)[1:], cancelled(1), data(0, "ab"), data(0, "\x00"))
}

// One frame holds bytes of one message alone.
func TestP8MessagesDoNotShareFrames(t *testing.T) {
	e := newEnd(t, even(1, 8, 8))
	for range 3 {
		submit(t, e, 0)
	}
	submit(t, e, 0, "abcdefg")
	submit(t, e, 0, "z")
	zero := data(0, "\x00")
	expectWrite(t, e, 1000, zero, zero, zero, data(0, "\x01\x07abc"), data(0, "defg"), data(0, "\x01\x01z"))
}

func TestP2WriteHangsOnTheEndAlone(t *testing.T) {
	want := busy(t).Write(1000)
	ends := []*skein.End{busy(t), busy(t), busy(t)}
	lines := make([]string, len(ends))
	other := newEnd(t, plain())
	for step := 0; len(lines[2]) < len(want); step++ {
		for i, e := range ends {
			lines[i] += e.Write(i + 1 + step%3)
		}
		other.Submit(step%2, []string{"a"})
		other.Write(step % 5)
		other.Cancel(step / 20)
	}
	for i := range ends {
		if lines[i] += ends[i].Write(1000); lines[i] != want {
			t.Errorf("P2: end %d beside others gives %q, want %q", i, lines[i], want)
		}
	}
}

func TestP2EndsInParallel(t *testing.T) {
	want := busy(t).Write(1000)
	for range 8 {
		t.Run("", func(t *testing.T) {
			t.Parallel()
			for range 20 {
				expectWrite(t, busy(t), 1000, want)
			}
		})
	}
}
