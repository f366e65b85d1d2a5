package skein_test

import (
	"testing"

	"skein/api"
	"skein/skein"
)

func TestP9Example(t *testing.T) {
	e := newEnd(t, plain())
	submit(t, e, 0, "abcd")
	submit(t, e, 1, "abcd")
	expectWrite(t, e, 6, data(0, "\x01\x04"))
	expectFlow(t, e, 0, api.Flow{Credit: 18, Owed: 20})
	expectWrite(t, e, 7, data(1, "\x01\x04a"))
	expectFlow(t, e, 1, api.Flow{Credit: 17, Owed: 20, Deficit: 1})
	expectWrite(t, e, 5, data(1, "b"))
	expectFlow(t, e, 1, api.Flow{Credit: 16, Owed: 20})
	expectWrite(t, e, 100, data(0, "ab"), data(1, "cd"), data(0, "cd"))
	expectFlow(t, e, 0, api.Flow{Credit: 14, Owed: 20})
	expectFlow(t, e, 1, api.Flow{Credit: 14, Owed: 20})
}

func TestP9ByWeight(t *testing.T) {
	c := even(4, 2, 8)
	c.Weights = [4]int{1, 3, 4, 2}
	e := newEnd(t, c)
	for number := range 4 {
		submit(t, e, number, "abcdefghijklmno", "pqrstuvwxyz")
	}
	expectWrite(t, e, 1<<30,
		data(0, "\x02\x0f"), data(1, "\x02\x0f\x0babc"), data(2, "\x02\x0f\x0babcde"), data(3, "\x02\x0f\x0ba"),
		data(0, "\x0ba"), data(1, "defghi"), data(2, "fghijklm"), data(3, "bcde"),
		data(0, "bc"), data(1, "jklmno"), data(2, "nopqrstu"), data(3, "fghi"),
		data(0, "de"), data(1, "pqrstu"), data(2, "vwxyz"), data(3, "jklm"),
		data(0, "fg"), data(1, "vwxyz"), data(3, "nopq"),
		data(0, "hi"), data(3, "rstu"),
		data(0, "jk"), data(3, "vwxy"),
		data(0, "lm"), data(3, "z"),
		data(0, "no"), data(0, "pq"), data(0, "rs"), data(0, "tu"), data(0, "vw"), data(0, "xy"), data(0, "z"))
}

// A turn goes on over several messages, and over several calls, whatever comes meanwhile.
func TestP9TurnGoesOn(t *testing.T) {
	e := newEnd(t, even(2, 8, 3))
	submit(t, e, 1, "a")
	submit(t, e, 1, "b")
	submit(t, e, 1, "cdef")
	expectWrite(t, e, 7, data(1, "\x01\x01a"))
	submit(t, e, 0, "xyz")
	expectWrite(t, e, 7, data(1, "\x01\x01b"))
	expectFlow(t, e, 1, api.Flow{Credit: 244, Owed: 250, Deficit: 2})
	expectWrite(t, e, 1000, data(1, "\x01\x04"), data(0, "\x01\x03x"), data(0, "yz"), data(1, "cde"), data(1, "f"))
}

// Where the queue becomes empty, what is left of the turn is lost.
func TestP9EmptyQueueLosesDeficit(t *testing.T) {
	e := newEnd(t, even(2, 8, 8))
	submit(t, e, 0)
	expectWrite(t, e, 5, data(0, "\x00"))
	expectFlow(t, e, 0, api.Flow{Credit: 249, Owed: 250})
	submit(t, e, 0, "abcdefgh")
	submit(t, e, 1, "z")
	expectWrite(t, e, 1000, data(1, "\x01\x01z"), data(0, "\x01\x08abcdef"), data(0, "gh"))
	expectFlow(t, e, 0, api.Flow{Credit: 239, Owed: 250})
}

// If none can send, it is again the turn of the one with which it was begun to look.
func TestP9LookingLeavesTheTurn(t *testing.T) {
	for number := range 3 {
		e := newEnd(t, even(3, 1, 1))
		submit(t, e, number)
		expectWrite(t, e, 1000, data(number, "\x00"))
		for range 5 {
			expectWrite(t, e, 1)
		}
		for other := range 3 {
			submit(t, e, other)
		}
		second, third := (number+1)%3, (number+2)%3
		expectWrite(t, e, 1000, data(second, "\x00"), data(third, "\x00"), data(number, "\x00"))
	}
}

func TestP9TurnsAtFirst(t *testing.T) {
	e := newEnd(t, even(4, 2, 2))
	for number := 3; number >= 0; number-- {
		submit(t, e, number, "a")
	}
	expectWrite(t, e, 1000,
		data(0, "\x01\x01"), data(1, "\x01\x01"), data(2, "\x01\x01"), data(3, "\x01\x01"),
		data(0, "a"), data(1, "a"), data(2, "a"), data(3, "a"))
}

func small(window int, weights ...int) api.Config {
	c := even(len(weights), 8, 8)
	copy(c.Weights[:], weights)
	c.Window = window
	return c
}

// Without credit nothing goes on a stream, and the others go on.
func TestP9NoCredit(t *testing.T) {
	e := newEnd(t, small(8, 1, 1))
	submit(t, e, 0, "abcdef")
	submit(t, e, 0, "gh")
	submit(t, e, 1, "x")
	expectWrite(t, e, 1000, data(0, "\x01\x06abcdef"), data(1, "\x01\x01x"))
	expectFlow(t, e, 0, api.Flow{Owed: 8})
	expectState(t, e, 4)
	expectWrite(t, e, 1000)
	submit(t, e, 1, "yz")
	expectWrite(t, e, 1000, data(1, "\x01\x02yz"))
	expectState(t, e, 4)
	read(t, e, credited(0, 3))
	expectWrite(t, e, 1000, data(0, "\x01\x02g"))
	expectFlow(t, e, 0, api.Flow{Owed: 8, Deficit: 5})
	cancel(t, e, 0)
	expectFlow(t, e, 0, api.Flow{Owed: 8, NoSend: true})
	expectWrite(t, e, 1000, cancelled(0))
}

// What is left of a turn that ends for want of credit is kept, but no more than a share.
func TestP9DeficitWithoutCredit(t *testing.T) {
	e := newEnd(t, small(10, 4, 1))
	submit(t, e, 0, "abcdefgh")
	submit(t, e, 0, "zabcdefg")
	expectWrite(t, e, 1000, data(0, "\x01\x08abcdef"), data(0, "gh"))
	expectFlow(t, e, 0, api.Flow{Owed: 10, Deficit: 22})
	expectWrite(t, e, 1000)
	expectFlow(t, e, 0, api.Flow{Owed: 10, Deficit: 22})
	read(t, e, credited(0, 1))
	expectWrite(t, e, 1000, data(0, "\x01"))
	expectFlow(t, e, 0, api.Flow{Owed: 10, Deficit: 32})
	read(t, e, credited(0, 3))
	submit(t, e, 1)
	expectWrite(t, e, 5, data(1, "\x00"))
	expectWrite(t, e, 1, "\x01")
	expectFlow(t, e, 0, api.Flow{Owed: 10, Deficit: 32})
	read(t, e, credited(0, 10))
	expectWrite(t, e, 6, data(0, "\x08za")[1:])
	// A turn that has just begun is worth a share on top of what was kept.
	expectWrite(t, e, 1, "\x01")
	expectFlow(t, e, 0, api.Flow{Credit: 4, Owed: 10, Deficit: 0})
	expectWrite(t, e, 1000, data(0, "bcdefg")[1:])
}

// What was kept of a turn lets a stream send more than a share in its next one, but not twice.
func TestP9KeptDeficitIsSpent(t *testing.T) {
	c := small(8, 1, 1)
	c.Quantum, c.Chunk = 4, 3
	e := newEnd(t, c)
	submit(t, e, 0, "abcdef")
	submit(t, e, 0, "ghijkl")
	submit(t, e, 1, "uvwxyz")
	expectWrite(t, e, 1000,
		data(0, "\x01\x06a"), data(0, "b"), data(1, "\x01\x06u"), data(1, "v"),
		data(0, "cde"), data(0, "f"), data(1, "wxy"), data(1, "z"))
	read(t, e, credited(0, 1))
	read(t, e, credited(1, 8))
	submit(t, e, 1, "abcdef")
	expectWrite(t, e, 5, data(0, "\x01"))
	expectFlow(t, e, 0, api.Flow{Owed: 8, Deficit: 3})
	read(t, e, credited(0, 8))
	expectWrite(t, e, 1000,
		data(1, "\x01\x06a"), data(1, "b"),
		data(0, "\x06gh"), data(0, "ijk"), data(0, "l"),
		data(1, "cde"), data(1, "f"))
}

// While two streams both have something to send, and credit, they send by their weights.
func TestP9Fair(t *testing.T) {
	for _, c := range []api.Config{
		{Streams: 4, Weights: [4]int{1, 2, 3, 4}, Quantum: 1, Chunk: 8, Window: 250, Queue: 600, Patience: 1},
		{Streams: 3, Weights: [4]int{4, 1, 4}, Quantum: 8, Chunk: 3, Window: 250, Queue: 600, Patience: 1},
		{Streams: 2, Weights: [4]int{3, 2}, Quantum: 5, Chunk: 1, Window: 250, Queue: 600, Patience: 1},
	} {
		e := newEnd(t, c)
		var given, put [4]int
		marks := [][4]int{put}
		for range 600 {
			for number := range c.Streams {
				given[number] += feed(t, e, number, given[number]-put[number])
			}
			for _, f := range cut(t, wholeFrame(e)) {
				put[f.stream] += len(f.payload)
			}
			marks = append(marks, put)
		}
		for i := range c.Streams {
			for j := range i {
				expectFair(t, c, marks, i, j)
			}
		}
	}
}

// feed sees to it that a stream is neither without something to send nor without credit, and tells how many bytes it submits.
func feed(t *testing.T, e *skein.End, number, queued int) int {
	t.Helper()
	if f, _ := e.Flow(number); f.Credit < 50 {
		read(t, e, credited(number, 200))
	}
	if queued >= 50 {
		return 0
	}
	size := 20 + 5*number
	for _, parts := range [][]string{sized(number, size), nil, sized(number, 49)} {
		submit(t, e, number, parts...)
	}
	return size + 1 + 49
}

// wholeFrame gives the next frame, if there is one.
func wholeFrame(e *skein.End) string {
	header := e.Write(4)
	if header == "" {
		return ""
	}
	return header + e.Write(int(header[2]))
}

// expectFair holds any two moments against each other.
func expectFair(t *testing.T, c api.Config, marks [][4]int, i, j int) {
	t.Helper()
	for from := range marks {
		for to := from + 1; to < len(marks); to++ {
			x, y := marks[to][i]-marks[from][i], marks[to][j]-marks[from][j]
			// Multiplied by both weights, to stay with whole numbers.
			apart := x*c.Weights[j] - y*c.Weights[i]
			if most := (2*c.Quantum + 2*c.Chunk) * c.Weights[i] * c.Weights[j]; apart > most || -apart > most {
				t.Fatalf("P9: from %d to %d streams %d and %d sent %d and %d bytes, by %+v", from, to, i, j, x, y, c)
			}
		}
	}
}
