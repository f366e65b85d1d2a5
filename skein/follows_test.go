package skein_test

import (
	"math/rand/v2"
	"testing"

	"skein/api"
	"skein/skein"
)

// greedy is an end, and another one by hand that takes all that it is granted.
type greedy struct {
	c       api.Config
	e       *skein.End
	pending [4]string // bytes of messages that are not yet in frames
	most    [3]int    // the greatest that was seen: Queued, held, Deficit (in hundredths of a share)
}

// frame is as much as may come on a stream of Data, or of Credit.
func (g *greedy) frame(r *rand.Rand, stream int) string {
	f, _ := g.e.Flow(stream)
	if credit := g.c.Window - f.Credit; credit > 0 && r.IntN(2) == 0 {
		return credited(stream, 1+r.IntN(2)*(credit-1))
	}
	n := g.c.Chunk
	if !f.NoReceive {
		n = min(n, f.Owed)
	}
	if n == 0 {
		return ""
	}
	for len(g.pending[stream]) < n {
		g.pending[stream] += asBytes(shortParts(r, g.c.Window))
	}
	payload := g.pending[stream][:n]
	g.pending[stream] = g.pending[stream][n:]
	return data(stream, payload)
}

func (g *greedy) step(t *testing.T, r *rand.Rand) {
	t.Helper()
	stream := r.IntN(g.c.Streams)
	switch n := r.IntN(400); {
	case n < 1:
		g.e.Tick()
	case n < 50:
		g.e.Submit(stream, anyParts(r))
	case n < 60:
		g.e.Release(stream)
	case n < 200:
		g.e.Write(1 + r.IntN(5))
	default:
		s := g.frame(r, stream)
		for i := range len(s) {
			read(t, g.e, s[i:i+1])
			expectWithin(t, g.c, g.e)
		}
	}
	expectWithin(t, g.c, g.e)
	s := g.e.State()
	g.most[0], g.most[1] = max(g.most[0], s.Queued), max(g.most[1], s.Held)
	for stream := range g.c.Streams {
		f, _ := g.e.Flow(stream)
		g.most[2] = max(g.most[2], 100*f.Deficit/(g.c.Quantum*g.c.Weights[stream]))
	}
}

// The bounds hold against one that goes to each of them; and it does.
func TestP16BoundsWhateverComes(t *testing.T) {
	queues, holds, deficits := 0, 0, 0
	for seed := range uint64(200) {
		r := rand.New(rand.NewPCG(seed, 7))
		c := anyConfig(r)
		g := &greedy{c: c, e: newEnd(t, c)}
		for range 500 {
			g.step(t, r)
		}
		if g.most[0] == c.Queue {
			queues++
		}
		if g.most[1] == c.Streams*c.Window {
			holds++
		}
		if g.most[2] > 150 {
			deficits++
		}
		kill(t, g.e, api.ErrCheck)
		expectWithin(t, c, g.e)
	}
	if min(queues, holds, deficits) < 10 {
		t.Errorf("only %d reached Queue, %d Streams times Window, %d one and a half shares", queues, holds, deficits)
	}
}

// What is kept of a turn, and a share on top: no Deficit is greater than that.
func TestP16GreatestDeficit(t *testing.T) {
	for weight := 1; weight <= api.MaxWeight; weight++ {
		for quantum := 3; quantum <= api.MaxQuantum; quantum++ {
			share := quantum * weight
			c := small(8, weight)
			c.Quantum, c.Chunk = quantum, 1
			e := newEnd(t, c)
			for range 12 {
				submit(t, e, 0, sized(0, 8)...)
			}
			// Every turn ends for want of credit, until a whole share is kept.
			for f, _ := e.Flow(0); f.Deficit < share; f, _ = e.Flow(0) {
				e.Write(1000)
				expectWithin(t, c, e)
				read(t, e, credited(0, 1))
			}
			read(t, e, credited(0, 7))
			e.Write(1)
			expectFlow(t, e, 0, api.Flow{Credit: 7, Owed: 8, Deficit: 2*share - 1})
		}
	}
}

// No rounds are worse than those with a byte in each, of messages of a byte, or of as many as have room once.
func TestP16RoundsAtTheirWorst(t *testing.T) {
	for streams := 1; streams <= api.MaxStreams; streams++ {
		for _, size := range []int{1, 2, 5, 8} {
			for _, ends := range []int{1, 2} {
				c := api.Config{Streams: streams, Weights: [4]int{1, 4, 2, 1}, Quantum: 1, Chunk: 1, Window: 8, Queue: 200, Patience: 1}
				p := newPair(t, c)
				for i := range ends * c.Queue / size {
					parts := []string{}
					if size > 1 {
						parts = sized(i, size)
					}
					p.submit(i%ends, i%streams, parts)
				}
				p.expectAllComes(t, func() int { return 1 })
			}
		}
	}
}

// fairness is what two streams of an end put into frames, in a time in which both could.
type fairness struct {
	i, j        int
	could       bool
	low, high   int // of what i put in, by its weight, less what j did
	times, long int
}

// behold is told how it stands: what each stream put into frames so far, and whether it can go on.
func (f *fairness) behold(t *testing.T, c api.Config, put [4]int, can [4]bool) {
	t.Helper()
	// Multiplied by both weights, to stay with whole numbers.
	apart := put[f.i]*c.Weights[f.j] - put[f.j]*c.Weights[f.i]
	if !f.could {
		f.low, f.high, f.times = apart, apart, 0
	}
	f.low, f.high = min(f.low, apart), max(f.high, apart)
	if most := (2*c.Quantum + 2*c.Chunk) * c.Weights[f.i] * c.Weights[f.j]; f.high-f.low > most {
		t.Fatalf("P16: streams %d and %d are %d apart, want %d at the most, by %+v", f.i, f.j, f.high-f.low, most, c)
	}
	f.could = can[f.i] && can[f.j]
	f.times++
	f.long = max(f.long, f.times)
}

// sender is an end of which it is known what its streams have in their queues.
type sender struct {
	c          api.Config
	e          *skein.End
	given, put [4]int
	slow       [4]int // so seldom is a stream given messages and credit
}

// can tells which streams have something in their queues, and credit.
func (s *sender) can() (can [4]bool) {
	for number := range s.c.Streams {
		f, _ := s.e.Flow(number)
		can[number] = s.given[number] > s.put[number] && f.Credit > 0
	}
	return can
}

// feed gives some streams messages and credit.
func (s *sender) feed(t *testing.T, r *rand.Rand) {
	t.Helper()
	for number := range s.c.Streams {
		if r.IntN(s.slow[number]) > 0 {
			continue
		}
		parts := shortParts(r, s.c.Window)
		if s.given[number]-s.put[number] < s.c.Queue/s.c.Streams-50 && s.e.Submit(number, parts) == api.OK {
			s.given[number] += len(asBytes(parts))
		}
		f, _ := s.e.Flow(number)
		if credit := s.c.Window - f.Credit; credit > 0 {
			read(t, s.e, credited(number, 1+r.IntN(credit)))
		}
	}
}

func (s *sender) behold(t *testing.T, pairs []*fairness) {
	t.Helper()
	for _, f := range pairs {
		f.behold(t, s.c, s.put, s.can())
	}
}

// While two streams both have something to send, and credit, they send by their weights, whatever the others do, and whatever was before.
func TestP16Fair(t *testing.T) {
	long := 0
	for seed := range uint64(300) {
		r := rand.New(rand.NewPCG(seed, 8))
		c := anyConfig(r)
		c.Streams, c.Queue = 2+r.IntN(3), api.MaxQueue
		for number := range c.Streams {
			c.Weights[number] = 1 + r.IntN(4)
		}
		s := &sender{c: c, e: newEnd(t, c)}
		var pairs []*fairness
		for i := range c.Streams {
			s.slow[i] = 1 + r.IntN(2)*r.IntN(12)
			for j := range i {
				pairs = append(pairs, &fairness{i: i, j: j})
			}
		}
		for range 500 {
			for range r.IntN(4) {
				s.feed(t, r)
			}
			s.behold(t, pairs)
			for _, f := range cut(t, wholeFrame(s.e)) {
				s.put[f.stream] += len(f.payload)
			}
			// Ahead of what is fed next, too: a stream that could not for a moment could not.
			s.behold(t, pairs)
		}
		for _, f := range pairs {
			long = max(long, f.long)
		}
	}
	if long < 300 {
		t.Errorf("no two streams could for more than %d frames", long)
	}
}
