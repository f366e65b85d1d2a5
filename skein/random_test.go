package skein_test

import (
	"fmt"
	"math"
	"math/rand/v2"
	"testing"

	"skein/api"
	"skein/skein"
)

func anyConfig(r *rand.Rand) api.Config {
	c := api.Config{Streams: 1 + r.IntN(4), Quantum: 1 + r.IntN(8), Chunk: 1 + r.IntN(8), Patience: 1 + r.IntN(9)}
	c.Window, c.Queue = 8+r.IntN(20), 1+r.IntN(100)
	if r.IntN(4) == 0 {
		c.Window, c.Queue = 8+r.IntN(243), 1+r.IntN(600)
	}
	for i := range c.Weights {
		c.Weights[i] = 1 + r.IntN(4)
		if i >= c.Streams {
			c.Weights[i] = r.IntN(100) - 50
		}
	}
	return c
}

// anyParts is mostly a message, and mostly a short one.
func anyParts(r *rand.Rand) []string {
	parts := make([]string, r.IntN(5)*r.IntN(5)/4)
	for i := range parts {
		parts[i] = text(r.IntN(256), r.IntN(7))
		if r.IntN(8) == 0 {
			parts[i] = text(r.IntN(256), r.IntN(17))
		}
	}
	return parts
}

// trial is an end with its model, and with what comes to it.
type trial struct {
	e       *skein.End
	m       *model
	line    string    // that is to be read
	pending [4]string // bytes of messages that are not yet in frames
	wrong   int       // one frame of so many is a wrong one
	ticks   int       // so many calls of 100 are Tick
}

func newTrial(t *testing.T, r *rand.Rand) *trial {
	c := anyConfig(r)
	return &trial{e: newEnd(t, c), m: newModel(c), wrong: 20 + r.IntN(400), ticks: r.IntN(12)}
}

// frame is one that mostly may come, as far as what was read tells.
func (a *trial) frame(r *rand.Rand) string {
	number := r.IntN(a.m.c.Streams)
	l := &a.m.lane[number]
	if r.IntN(a.wrong) == 0 {
		return a.wrongFrame(r, number)
	}
	switch n := r.IntN(100); {
	case n == 0 && !l.hadReset:
		return resetted(number)
	case n == 1 && !l.hadCancel:
		return cancelled(number)
	case n < 30 && l.credit < a.m.c.Window && a.line == "":
		return credited(number, 1+r.IntN(a.m.c.Window-l.credit))
	case !l.hadCancel && a.line == "" && (l.gavUp || l.owed > 0):
		for len(a.pending[number]) < 8 {
			a.pending[number] += asBytes(shortParts(r, a.m.c.Window))
		}
		n := 1 + r.IntN(a.m.c.Chunk)
		if !l.gavUp {
			n = min(n, l.owed)
		}
		payload := a.pending[number][:n]
		a.pending[number] = a.pending[number][n:]
		return data(number, payload)
	}
	return ""
}

// shortParts is a message that has room in a window.
func shortParts(r *rand.Rand, window int) []string {
	for {
		parts := anyParts(r)
		if _, errno := skein.Pack(parts); errno == api.OK && len(asBytes(parts)) <= window {
			return parts
		}
	}
}

// wrongFrame is mostly one that may not come, of whatever kind.
func (a *trial) wrongFrame(r *rand.Rand, number int) string {
	switch r.IntN(8) {
	case 0:
		return gone(r.IntN(256))
	case 1:
		return credited(number, r.IntN(256))
	case 2:
		return cancelled(number)
	case 3:
		return resetted(number)
	case 4:
		return data(number, text(r.IntN(256), 1+r.IntN(a.m.c.Chunk)))
	case 5:
		return frameBytes(r.IntN(7), r.IntN(6), text(r.IntN(256), r.IntN(10)))
	case 6:
		return text(r.IntN(256), r.IntN(9))
	}
	return data(number, asBytes([]string{"", text(0, 15)})[:min(a.m.c.Chunk, 3)])
}

// read lets some more bytes come to both.
func (a *trial) read(r *rand.Rand) (call, got, want string) {
	for range r.IntN(4) {
		a.line += a.frame(r)
	}
	n := min(r.IntN(12), len(a.line))
	if r.IntN(4) == 0 {
		n = len(a.line)
	}
	s := a.line[:n]
	a.line = a.line[n:]
	return fmt.Sprintf("Read(%q)", s), fmt.Sprint(a.e.Read(s)), fmt.Sprint(a.m.read(s))
}

// step does one thing with both, and tells what they answered.
func (a *trial) step(r *rand.Rand) (call, got, want string) {
	stream := r.IntN(a.m.c.Streams+2) - 1
	switch n := r.IntN(100); {
	case n == 0:
		return fmt.Sprintf("Cancel(%d)", stream), fmt.Sprint(a.e.Cancel(stream)), fmt.Sprint(a.m.cancel(stream))
	case n <= a.ticks:
		a.e.Tick()
		a.m.tick()
		return "Tick()", "", ""
	case n < 20:
		parts := anyParts(r)
		return fmt.Sprintf("Submit(%d, %q)", stream, parts), fmt.Sprint(a.e.Submit(stream, parts)), fmt.Sprint(a.m.submit(stream, parts))
	case n < 30:
		return fmt.Sprintf("Receive(%d)", stream), told(a.e.Receive(stream)), told(a.m.receive(stream))
	case n < 45:
		return fmt.Sprintf("Release(%d)", stream), fmt.Sprint(a.e.Release(stream)), fmt.Sprint(a.m.release(stream))
	case n < 75:
		return a.read(r)
	default:
		most := r.IntN(20) - 2
		if r.IntN(20) == 0 {
			most = math.MaxInt
		}
		return fmt.Sprintf("Write(%d)", most), a.e.Write(most), a.m.write(most)
	}
}

func told(parts []string, errno api.Errno) string { return fmt.Sprintf("%q, %d", parts, errno) }

func (a *trial) expectAlike(t *testing.T) {
	t.Helper()
	want := a.m.state()
	expectKept(t, a.e, want.Queued, want.Held, want.Died)
	for number := range a.m.c.Streams {
		expectFlow(t, a.e, number, a.m.flow(number))
	}
	expectWithin(t, a.m.c, a.e)
}

// Several ends, each with its model, go on beside one another, at random (always the same).
func TestP11LikeTheModel(t *testing.T) {
	deaths := map[api.Errno]int{}
	resets, crossed := 0, 0 // steps behind a reset, and of these, behind a Cancel of the same stream
	for seed := range uint64(500) {
		r := rand.New(rand.NewPCG(seed, 3))
		trials := []*trial{newTrial(t, r), newTrial(t, r), newTrial(t, r)}
		var calls []string
		for range 500 {
			i := r.IntN(len(trials))
			call, got, want := trials[i].step(r)
			calls = append(calls, fmt.Sprintf("%d: %s", i, call))
			if got != want {
				t.Fatalf("by %+v: %q: %q, want %q", trials[i].m.c, calls, got, want)
			}
			for _, a := range trials {
				a.expectAlike(t)
				for _, l := range a.m.lane {
					if l.gavUp {
						resets++
					}
					if l.gavUp && l.hadCancel {
						crossed++
					}
				}
			}
		}
		for _, a := range trials {
			deaths[a.m.died]++
		}
	}
	if resets < 10000 || crossed < 1000 {
		t.Errorf("only %d steps behind a reset, %d behind a Cancel, too", resets, crossed)
	}
	for _, of := range append(causes(), api.OK) {
		if deaths[of] < 50 {
			t.Errorf("only %d ends died of %d", deaths[of], of)
		}
	}
}
