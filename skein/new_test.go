package skein_test

import (
	"math"
	"testing"

	"skein/api"
	"skein/skein"
)

func expectConfig(t *testing.T, c api.Config, may bool) {
	t.Helper()
	e, errno := skein.New(c)
	if may && (e == nil || errno != api.OK) || !may && (e != nil || errno != api.ErrConfig) {
		t.Errorf("P5: New(%+v): an end: %v, %d; it may be: %v", c, e != nil, errno, may)
	}
}

func TestP5Bounds(t *testing.T) {
	for _, field := range []struct {
		least, most int
		set         func(c *api.Config, n int)
	}{
		{1, 4, func(c *api.Config, n int) { c.Streams = n }},
		{1, 4, func(c *api.Config, n int) { c.Weights[0] = n }},
		{1, 8, func(c *api.Config, n int) { c.Quantum = n }},
		{1, 8, func(c *api.Config, n int) { c.Chunk = n }},
		{8, 250, func(c *api.Config, n int) { c.Window = n }},
		{1, 600, func(c *api.Config, n int) { c.Queue = n }},
		{1, 9, func(c *api.Config, n int) { c.Patience = n }},
	} {
		numbers := []int{math.MinInt, math.MinInt + 1, -1 << 32, 1 << 32, 1<<32 + field.least, math.MaxInt}
		for n := -300; n < 700; n++ {
			numbers = append(numbers, n)
		}
		for _, n := range numbers {
			c := even(2, 3, 4)
			field.set(&c, n)
			expectConfig(t, c, field.least <= n && n <= field.most)
		}
	}
}

func TestP5WeightsOfStreamsAlone(t *testing.T) {
	for streams := 1; streams <= api.MaxStreams; streams++ {
		for number := range api.MaxStreams {
			for _, weight := range []int{math.MinInt, -1, 0, 1, 2, 4, 5, math.MaxInt} {
				c := even(streams, 1, 1)
				c.Weights[number] = weight
				expectConfig(t, c, number >= streams || weight >= 1 && weight <= 4)
			}
		}
	}
}

func TestP5SeveralFaults(t *testing.T) {
	expectConfig(t, api.Config{}, false)
	expectConfig(t, api.Config{Streams: math.MaxInt, Weights: [4]int{math.MinInt}, Quantum: -1, Chunk: 9, Window: 251, Queue: 0, Patience: 10}, false)
	expectConfig(t, api.Config{Streams: 5, Weights: [4]int{1, 1, 1, 1}, Quantum: 9, Chunk: 1, Window: 8, Queue: 1, Patience: 1}, false)
}

func TestP5NewEnd(t *testing.T) {
	least := api.Config{Streams: 1, Weights: [4]int{1, -1, 99, 0}, Quantum: 1, Chunk: 1, Window: 8, Queue: 1, Patience: 1}
	most := api.Config{Streams: 4, Weights: [4]int{4, 4, 4, 4}, Quantum: 8, Chunk: 8, Window: 250, Queue: 600, Patience: 9}
	for _, c := range []api.Config{plain(), least, most} {
		e := newEnd(t, c)
		expectState(t, e, 0)
		for number := range c.Streams {
			expectFlow(t, e, number, api.Flow{Credit: c.Window, Owed: c.Window})
		}
		expectWrite(t, e, 1000)
		submit(t, e, c.Streams-1)
		expectWrite(t, e, 1000, data(c.Streams-1, "\x00"))
	}
}

func TestP14NoSuchStream(t *testing.T) {
	for streams := 1; streams <= api.MaxStreams; streams++ {
		e := newEnd(t, even(streams, 1, 1))
		for _, number := range []int{math.MinInt, -1, streams, streams + 1, 256, 1 << 32, math.MaxInt} {
			if f, errno := e.Flow(number); f != (api.Flow{}) || errno != api.ErrStream {
				t.Errorf("P14: Flow(%d) of %d streams = %+v, %d", number, streams, f, errno)
			}
		}
	}
}

func TestP14DeadEnd(t *testing.T) {
	for _, of := range causes() {
		e := newEnd(t, plain())
		submit(t, e, 0, "abcd")
		read(t, e, data(1, "\x00\x01"))
		expectWrite(t, e, 6, data(0, "\x01\x04"))
		expectKept(t, e, 4, 2, api.OK)
		kill(t, e, of)
		expectKept(t, e, 0, 0, of)
		for number := range 2 {
			expectFlow(t, e, number, api.Flow{NoSend: true, NoReceive: true})
		}
		for _, number := range []int{math.MinInt, -1, 2, math.MaxInt} {
			if f, errno := e.Flow(number); f != (api.Flow{}) || errno != api.ErrStream {
				t.Errorf("P14: Flow(%d) of a dead end = %+v, %d", number, f, errno)
			}
		}
	}
}

// Held counts whole messages and those that are coming, of all streams.
func TestP14Held(t *testing.T) {
	e := newEnd(t, even(4, 8, 8))
	held := 0
	for _, step := range []struct {
		stream int
		bytes  string
	}{{3, "\x00"}, {0, "\x03"}, {1, "\x01\x02abx"[:4]}, {0, "\x01\x02\x03abb"}, {2, "\x00\x00\x00\x01\x0fabc"}, {0, "ccc\x00\x02"}} {
		read(t, e, data(step.stream, step.bytes))
		held += len(step.bytes)
		expectKept(t, e, 0, held, api.OK)
	}
	for _, stream := range []int{0, 2, 1, 3, 2, 0, 2} {
		parts, _ := e.Receive(stream)
		release(t, e, stream)
		held -= len(asBytes(parts))
		expectKept(t, e, 0, held, api.OK)
	}
	if held != 1+5 {
		t.Errorf("%d bytes are left", held)
	}
	submit(t, e, 0, "ab")
	expectKept(t, e, 4, held, api.OK)
}
