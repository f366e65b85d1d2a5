package skein_test

import (
	"fmt"
	"math/rand/v2"
	"slices"
	"strings"
	"testing"

	"skein/api"
	"skein/skein"
)

// pair is two ends, and the line between them.
type pair struct {
	c         api.Config
	ends      [2]*skein.End
	line      [2]string        // what each end wrote and the other has not read
	submitted [2][4][][]string // and not received at the other end
	cancelled [2][4]bool       // by the end that sends
	reset     [2][4]bool       // the same streams, by the end that receives
	bytes     int              // of messages that were ever submitted
}

func newPair(t *testing.T, c api.Config) *pair {
	t.Helper()
	return &pair{c: c, ends: [2]*skein.End{newEnd(t, c), newEnd(t, c)}}
}

func (p *pair) submit(k, stream int, parts []string) {
	if p.ends[k].Submit(stream, parts) == api.OK {
		p.submitted[k][stream] = append(p.submitted[k][stream], parts)
		p.bytes += len(asBytes(parts))
	}
}

func (p *pair) write(k, most int) { p.line[k] += p.ends[k].Write(most) }

// carry lets the other end read up to most bytes of what this one wrote.
func (p *pair) carry(t *testing.T, k, most int) {
	t.Helper()
	n := min(most, len(p.line[k]))
	read(t, p.ends[1-k], p.line[k][:n])
	p.line[k] = p.line[k][n:]
}

// receive takes the next message of what the other end submitted, if it came, and releases it.
func (p *pair) receive(t *testing.T, k, stream int) bool {
	t.Helper()
	f, _ := p.ends[k].Flow(stream)
	if f.NoReceive {
		expectNoReceive(t, p.ends[k], stream, api.ErrClosed)
		return false
	}
	parts, errno := p.ends[k].Receive(stream)
	if errno == api.ErrNone {
		return false
	}
	sent := p.submitted[1-k][stream]
	if errno != api.OK || len(sent) == 0 || !slices.Equal(parts, sent[0]) {
		t.Fatalf("P16: Receive(%d) = %q, %d, of %q", stream, parts, errno, sent)
	}
	p.submitted[1-k][stream] = sent[1:]
	release(t, p.ends[k], stream)
	return true
}

func (p *pair) cancel(t *testing.T, k, stream int) {
	t.Helper()
	if f, _ := p.ends[k].Flow(stream); !f.NoSend {
		cancel(t, p.ends[k], stream)
		p.cancelled[k][stream] = true
	}
}

// tick lets time go by at one end, and takes down which streams it resets.
func (p *pair) tick(k int) {
	var before [4]api.Flow
	for stream := range p.c.Streams {
		before[stream], _ = p.ends[k].Flow(stream)
	}
	p.ends[k].Tick()
	for stream := range p.c.Streams {
		if after, _ := p.ends[k].Flow(stream); after != before[stream] {
			p.reset[1-k][stream] = true
		}
	}
}

// closed tells whether what this end sends on the stream was given up, by whichever end.
func (p *pair) closed(k, stream int) bool { return p.cancelled[k][stream] || p.reset[k][stream] }

// expectBounds holds for all that two ends can do to each other, and so they live.
func (p *pair) expectBounds(t *testing.T) {
	t.Helper()
	for k, e := range p.ends {
		if died := e.State().Died; died != api.OK {
			t.Fatalf("P16: end %d died of %d", k, died)
		}
		expectWithin(t, p.c, e)
		for stream := range p.c.Streams {
			f, _ := e.Flow(stream)
			if f.NoSend && !p.closed(k, stream) || f.NoReceive && !p.closed(1-k, stream) {
				t.Fatalf("P16: Flow(%d) = %+v of end %d: closed by nobody", stream, f, k)
			}
			if p.cancelled[k][stream] && !f.NoSend || p.reset[1-k][stream] && !f.NoReceive {
				t.Fatalf("P16: Flow(%d) = %+v of end %d: open again", stream, f, k)
			}
		}
	}
}

// pace is how two ends go on: of 200 steps, so many are Cancel and Tick, and so many bytes at the most are written or read in one.
type pace struct{ cancels, ticks, bytes int }

func (p *pair) step(t *testing.T, r *rand.Rand, by pace) {
	t.Helper()
	k, stream := r.IntN(2), r.IntN(p.c.Streams)
	switch n := r.IntN(200); {
	case n < by.cancels:
		p.cancel(t, k, stream)
	case n < by.cancels+by.ticks:
		p.tick(k)
	case n < 60:
		p.submit(k, stream, anyParts(r))
	case n < 110:
		p.write(k, r.IntN(by.bytes+1))
	case n < 160:
		p.carry(t, k, r.IntN(by.bytes+1))
	default:
		p.receive(t, k, stream)
	}
}

// round is what goes on until all has come.
func (p *pair) round(t *testing.T, most func() int) {
	t.Helper()
	for k := range 2 {
		p.write(k, most())
		p.carry(t, k, len(p.line[k]))
	}
	for k := range 2 {
		for stream := range p.c.Streams {
			for p.receive(t, k, stream) {
			}
		}
	}
}

func (p *pair) left() int {
	sum := 0
	for k := range 2 {
		for _, messages := range p.submitted[k] {
			sum += len(messages)
		}
	}
	return sum
}

// expectAllComes lets rounds go by, each with so many bytes, until all has come.
func (p *pair) expectAllComes(t *testing.T, most func() int) {
	t.Helper()
	for rounds := 0; p.left() > 0; rounds++ {
		if rounds == 10*p.bytes+100 {
			t.Fatalf("P16: %d messages have not come within %d rounds for %d bytes, by %+v", p.left(), rounds, p.bytes, p.c)
		}
		p.round(t, most)
		p.expectBounds(t)
	}
}

func TestP16AllComes(t *testing.T) {
	for seed := range uint64(150) {
		r := rand.New(rand.NewPCG(seed, 4))
		p := newPair(t, anyConfig(r))
		for range 300 {
			p.step(t, r, pace{bytes: 30})
			p.expectBounds(t)
		}
		most := func() int { return 1 + r.IntN(10) }
		if seed%2 == 0 {
			most = func() int { return 1 }
		}
		p.expectAllComes(t, most)
		for range 20 {
			p.round(t, func() int { return 1000 })
		}
		for _, e := range p.ends {
			expectState(t, e, 0)
			for number := range p.c.Streams {
				expectFlow(t, e, number, api.Flow{Credit: p.c.Window, Owed: p.c.Window})
			}
		}
	}
}

// Whatever two ends do, with Cancel and Tick among it, what is not given up comes.
func TestP16CancelAndTick(t *testing.T) {
	seen := map[string]int{}
	for seed := range uint64(300) {
		r := rand.New(rand.NewPCG(seed, 5))
		p := newPair(t, anyConfig(r))
		by := pace{cancels: r.IntN(4), ticks: r.IntN(3) * r.IntN(20), bytes: 2 + r.IntN(3)*r.IntN(20)}
		for range 600 {
			p.step(t, r, by)
			p.expectBounds(t)
		}
		for range 1500 {
			p.round(t, func() int { return 20 })
		}
		p.expectBounds(t)
		for k := range 2 {
			for stream := range p.c.Streams {
				seen[p.expectSettled(t, k, stream)]++
			}
			expectState(t, p.ends[k], 0)
		}
	}
	for _, what := range []string{"open", "cancelled", "reset", "both"} {
		if seen[what] < 20 {
			t.Errorf("only %d streams are %s", seen[what], what)
		}
	}
}

// expectSettled is for what this end sent on a stream, when all is quiet; it tells what became of it.
func (p *pair) expectSettled(t *testing.T, k, stream int) string {
	t.Helper()
	from, _ := p.ends[k].Flow(stream)
	to, _ := p.ends[1-k].Flow(stream)
	if closed := p.closed(k, stream); from.NoSend != closed || to.NoReceive != closed {
		t.Fatalf("P16: stream %d is %+v here and %+v there; given up: %v", stream, from, to, closed)
	}
	switch {
	case p.cancelled[k][stream] && p.reset[k][stream]:
		return "both"
	case p.cancelled[k][stream]:
		return "cancelled"
	case p.reset[k][stream]:
		return "reset"
	}
	if left := len(p.submitted[k][stream]); left > 0 || from.Credit != p.c.Window || to.Owed != p.c.Window {
		t.Fatalf("P16: %d messages of stream %d have not come: %+v here and %+v there", left, stream, from, to)
	}
	return "open"
}

// warm lets an end send something on each stream, so that credit may come, and have more to send.
func warm(streams int, submit func(int, []string) api.Errno, write func(int) string) {
	for _, most := range []int{1000, 7} {
		for stream := range streams {
			submit(stream, sized(stream, 7))
		}
		write(most)
	}
}

// comes is bytes that come to an end, and sometimes kill it: a unit of time goes by between any two of these texts, wherever in a frame that is.
func comes(t *testing.T, r *rand.Rand) (api.Config, []string) {
	t.Helper()
	a := newTrial(t, r)
	a.wrong = 10 + r.IntN(80)
	warm(a.m.c.Streams, a.m.submit, a.m.write)
	past := []string{""}
	for range 40 {
		s := a.frame(r)
		if r.IntN(3) == 0 {
			n := r.IntN(len(s) + 1)
			past[len(past)-1] += s[:n]
			past = append(past, "")
			a.m.read(s[:n])
			a.m.tick()
			s = s[n:]
		}
		past[len(past)-1] += s
		a.m.read(s)
		if a.m.died != api.OK {
			return a.m.c, append(past, text(r.IntN(256), r.IntN(20)))
		}
	}
	return a.m.c, append(past, gone(1)[:r.IntN(5)])
}

// spoil changes a byte, or leaves it out.
func spoil(r *rand.Rand, past []string) {
	for i, s := range past {
		if s != "" && r.IntN(len(past)) == 0 {
			at := r.IntN(len(s))
			past[i] = s[:at] + text(r.IntN(256), r.IntN(2)) + s[at+1:]
		}
	}
}

// made tells all that can be asked of an end behind what was read.
func made(e *skein.End, streams int, died api.Errno) string {
	var b strings.Builder
	fmt.Fprintf(&b, "%d %+v", died, e.State())
	for number := range streams {
		f, errno := e.Flow(number)
		fmt.Fprintf(&b, " %+v %d", f, errno)
		for errno == api.OK {
			var parts []string
			parts, errno = e.Receive(number)
			fmt.Fprintf(&b, " %q %d %d", parts, errno, e.Release(number))
		}
	}
	fmt.Fprintf(&b, " %q %+v", e.Write(1000), e.State())
	return b.String()
}

// portions reads bytes in pieces of which next tells the length, up to the one that kills the end.
func portions(t *testing.T, c api.Config, past []string, next func() int) string {
	t.Helper()
	e := newEnd(t, c)
	warm(c.Streams, e.Submit, e.Write)
	died := api.OK
	for i, line := range past {
		if i > 0 {
			e.Tick()
		}
		for line != "" && died == api.OK {
			n := min(next(), len(line))
			died = e.Read(line[:n])
			line = line[n:]
		}
	}
	return made(e, c.Streams, died)
}

func TestP16AnyPortions(t *testing.T) {
	deaths, resets := 0, 0
	for seed := range uint64(600) {
		r := rand.New(rand.NewPCG(seed, 6))
		c, past := comes(t, r)
		if seed%4 == 0 {
			spoil(r, past)
		}
		want := portions(t, c, past, func() int { return 1 << 20 })
		if !strings.HasPrefix(want, "0 ") {
			deaths++
		}
		if strings.Contains(want, "NoReceive:true") && strings.HasPrefix(want, "0 ") {
			resets++
		}
		for n := 1; n <= 13; n++ {
			if got := portions(t, c, past, func() int { return n }); got != want {
				t.Fatalf("P16: %q in portions of %d: %s, want %s", past, n, got, want)
			}
		}
		for range 10 {
			if got := portions(t, c, past, func() int { return r.IntN(9) }); got != want {
				t.Fatalf("P16: %q in other portions: %s, want %s", past, got, want)
			}
		}
	}
	if deaths < 100 || deaths > 500 || resets < 50 {
		t.Errorf("%d of 600 ends died, %d live with a stream closed for receiving", deaths, resets)
	}
}

// A stream that waits for its messages to be released keeps no other one waiting.
func TestP16OneStreamDoesNotStopAnother(t *testing.T) {
	p := newPair(t, small(8, 1, 1))
	for range 10 {
		p.submit(0, 0, []string{"abcdef"})
	}
	for i := range 50 {
		p.submit(0, 1, []string{text(i, 3)})
		for range 3 {
			p.write(0, 1000)
			p.carry(t, 0, 1000)
			p.receive(t, 1, 1)
			p.write(1, 1000)
			p.carry(t, 1, 1000)
		}
		if left := len(p.submitted[0][1]); left != 0 {
			t.Fatalf("P16: %d messages have not come", left)
		}
		expectKept(t, p.ends[1], 0, 8, api.OK)
		expectKept(t, p.ends[0], 72, 0, api.OK)
	}
}
