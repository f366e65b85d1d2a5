package skein_test

import (
	"fmt"
	"math/rand/v2"
	"slices"
	"strings"
	"testing"

	"skein/api"
	"skein/skein"
)

// pair is two ends, and the line between them.
type pair struct {
	c         api.Config
	ends      [2]*skein.End
	line      [2]string        // what each end wrote and the other has not read
	submitted [2][4][][]string // and not received at the other end
	cancelled [2][4]bool       // at this end
	bytes     int              // of messages that were ever submitted
}

func newPair(t *testing.T, c api.Config) *pair {
	t.Helper()
	return &pair{c: c, ends: [2]*skein.End{newEnd(t, c), newEnd(t, c)}}
}

func (p *pair) submit(k, stream int, parts []string) {
	if p.ends[k].Submit(stream, parts) == api.OK {
		p.submitted[k][stream] = append(p.submitted[k][stream], parts)
		p.bytes += len(asBytes(parts))
	}
}

func (p *pair) write(k, most int) { p.line[k] += p.ends[k].Write(most) }

// carry lets the other end read up to most bytes of what this one wrote.
func (p *pair) carry(t *testing.T, k, most int) {
	t.Helper()
	n := min(most, len(p.line[k]))
	read(t, p.ends[1-k], p.line[k][:n])
	p.line[k] = p.line[k][n:]
}

// receive takes the next message of what the other end submitted, if it came, and releases it.
func (p *pair) receive(t *testing.T, k, stream int) bool {
	t.Helper()
	parts, errno := p.ends[k].Receive(stream)
	if errno == api.ErrClosed && p.cancelled[1-k][stream] {
		return false
	}
	if errno == api.ErrNone {
		return false
	}
	sent := p.submitted[1-k][stream]
	if errno != api.OK || len(sent) == 0 || !slices.Equal(parts, sent[0]) {
		t.Fatalf("P16: Receive(%d) = %q, %d, of %q", stream, parts, errno, sent)
	}
	p.submitted[1-k][stream] = sent[1:]
	release(t, p.ends[k], stream)
	return true
}

func (p *pair) cancel(t *testing.T, k, stream int) {
	t.Helper()
	if !p.cancelled[k][stream] {
		cancel(t, p.ends[k], stream)
		p.cancelled[k][stream] = true
	}
}

func (p *pair) expectBounds(t *testing.T) {
	t.Helper()
	for _, e := range p.ends {
		s := e.State()
		if s.Died != api.OK || s.Queued < 0 || s.Queued > p.c.Queue || s.Held < 0 || s.Held > p.c.Streams*p.c.Window {
			t.Fatalf("P16: %+v by %+v", s, p.c)
		}
		for number := range p.c.Streams {
			f, _ := e.Flow(number)
			if min(f.Credit, f.Owed, f.Deficit) < 0 || max(f.Credit, f.Owed) > p.c.Window || f.Deficit > 2*p.c.Quantum*p.c.Weights[number] {
				t.Fatalf("P16: %+v by %+v", f, p.c)
			}
		}
	}
}

func (p *pair) step(t *testing.T, r *rand.Rand, cancels bool) {
	t.Helper()
	k, stream := r.IntN(2), r.IntN(p.c.Streams)
	switch n := r.IntN(200); {
	case n == 0 && cancels:
		p.cancel(t, k, stream)
	case n < 50:
		p.submit(k, stream, anyParts(r))
	case n < 100:
		p.write(k, r.IntN(30))
	case n < 150:
		p.carry(t, k, r.IntN(30))
	default:
		p.receive(t, k, stream)
	}
}

// round is what goes on until all has come.
func (p *pair) round(t *testing.T, most func() int) {
	t.Helper()
	for k := range 2 {
		p.write(k, most())
		p.carry(t, k, len(p.line[k]))
	}
	for k := range 2 {
		for stream := range p.c.Streams {
			for p.receive(t, k, stream) {
			}
		}
	}
}

func (p *pair) left() int {
	sum := 0
	for k := range 2 {
		for _, messages := range p.submitted[k] {
			sum += len(messages)
		}
	}
	return sum
}

func TestP16AllComes(t *testing.T) {
	for seed := range uint64(150) {
		r := rand.New(rand.NewPCG(seed, 4))
		p := newPair(t, anyConfig(r))
		for range 300 {
			p.step(t, r, false)
			p.expectBounds(t)
		}
		most := func() int { return 1 + r.IntN(10) }
		if seed%2 == 0 {
			most = func() int { return 1 }
		}
		rounds := 0
		for ; p.left() > 0; rounds++ {
			if rounds > 10*p.bytes+100 {
				t.Fatalf("P16: %d messages have not come behind %d rounds for %d bytes, by %+v", p.left(), rounds, p.bytes, p.c)
			}
			p.round(t, most)
			p.expectBounds(t)
		}
		for range 20 {
			p.round(t, func() int { return 1000 })
		}
		for _, e := range p.ends {
			expectState(t, e, 0)
			for number := range p.c.Streams {
				expectFlow(t, e, number, api.Flow{Credit: p.c.Window, Owed: p.c.Window})
			}
		}
	}
}

func TestP16BehindCancelNothingComes(t *testing.T) {
	for seed := range uint64(150) {
		r := rand.New(rand.NewPCG(seed, 5))
		p := newPair(t, anyConfig(r))
		for range 600 {
			p.step(t, r, true)
			p.expectBounds(t)
		}
		for range 2000 {
			p.round(t, func() int { return 20 })
		}
		for k := range 2 {
			for stream := range p.c.Streams {
				want := api.ErrNone
				if p.cancelled[k][stream] {
					want = api.ErrClosed
				} else if len(p.submitted[k][stream]) > 0 {
					t.Fatalf("P16: %d messages of stream %d have not come", len(p.submitted[k][stream]), stream)
				}
				expectNoReceive(t, p.ends[1-k], stream, want)
			}
			expectState(t, p.ends[k], 0)
		}
	}
}

// comes is bytes that come to an end, and sometimes kill it.
func comes(t *testing.T, r *rand.Rand) (api.Config, string) {
	t.Helper()
	a := newTrial(t, r)
	a.wrong = 10 + r.IntN(40)
	line := ""
	for range 40 {
		s := a.frame(r)
		line += s
		if a.m.read(s) != api.OK {
			return a.m.c, line + text(r.IntN(256), r.IntN(20))
		}
		for stream := range a.m.c.Streams {
			if r.IntN(8) == 0 {
				a.m.cancel(stream)
			}
		}
	}
	return a.m.c, line + gone(1)[:r.IntN(5)]
}

// made tells all that can be asked of an end behind what was read.
func made(e *skein.End, streams int, died api.Errno) string {
	var b strings.Builder
	fmt.Fprintf(&b, "%d %+v", died, e.State())
	for number := range streams {
		f, errno := e.Flow(number)
		fmt.Fprintf(&b, " %+v %d", f, errno)
		for errno == api.OK {
			var parts []string
			parts, errno = e.Receive(number)
			fmt.Fprintf(&b, " %q %d %d", parts, errno, e.Release(number))
		}
	}
	fmt.Fprintf(&b, " %q %+v", e.Write(1000), e.State())
	return b.String()
}

// portions reads bytes in pieces of which next tells the length, up to the one that kills the end.
func portions(t *testing.T, c api.Config, line string, next func() int) string {
	t.Helper()
	e := newEnd(t, c)
	died := api.OK
	for line != "" && died == api.OK {
		n := min(next(), len(line))
		died = e.Read(line[:n])
		line = line[n:]
	}
	return made(e, c.Streams, died)
}

func TestP10AnyPortions(t *testing.T) {
	deaths := 0
	for seed := range uint64(400) {
		r := rand.New(rand.NewPCG(seed, 6))
		c, line := comes(t, r)
		want := portions(t, c, line, func() int { return len(line) })
		if !strings.HasPrefix(want, "0 ") {
			deaths++
		}
		for n := 1; n <= 13; n++ {
			if got := portions(t, c, line, func() int { return n }); got != want {
				t.Fatalf("P10: %q in portions of %d: %s, want %s", line, n, got, want)
			}
		}
		for range 10 {
			if got := portions(t, c, line, func() int { return r.IntN(9) }); got != want {
				t.Fatalf("P10: %q in other portions: %s, want %s", line, got, want)
			}
		}
	}
	if deaths < 50 || deaths > 350 {
		t.Errorf("%d of 400 ends died", deaths)
	}
}

// A stream that waits for its messages to be released keeps no other one waiting.
func TestP16OneStreamDoesNotStopAnother(t *testing.T) {
	p := newPair(t, small(8, 1, 1))
	for range 10 {
		p.submit(0, 0, []string{"abcdef"})
	}
	for i := range 50 {
		p.submit(0, 1, []string{text(i, 3)})
		for range 3 {
			p.write(0, 1000)
			p.carry(t, 0, 1000)
			p.receive(t, 1, 1)
			p.write(1, 1000)
			p.carry(t, 1, 1000)
		}
		if left := len(p.submitted[0][1]); left != 0 {
			t.Fatalf("P16: %d messages have not come", left)
		}
		expectKept(t, p.ends[1], 0, 8, api.OK)
		expectKept(t, p.ends[0], 72, 0, api.OK)
	}
}
