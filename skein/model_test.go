package skein_test

import (
	"fmt"
	"math"
	"math/rand/v2"
	"testing"

	"skein/api"
	"skein/skein"
)

// model does what P5 to P9 and P14 say, word by word, and has nothing in common with the program.
type model struct {
	c         api.Config
	lane      [4]lane
	turn      int
	justBegun bool
	frames    []string // that are to be sent
	line      string   // what was chosen and not given
}

type lane struct {
	queue           [][]byte
	put             int // of the first one
	credit, deficit int
	closed          bool
}

func newModel(c api.Config) *model {
	m := &model{c: c, justBegun: true}
	for i := range c.Streams {
		m.lane[i].credit = c.Window
	}
	return m
}

func (m *model) queued() int {
	sum := 0
	for _, l := range m.lane {
		for _, bytes := range l.queue {
			sum += len(bytes)
		}
		sum -= l.put
	}
	return sum
}

func (m *model) submit(stream int, parts []string) api.Errno {
	if stream < 0 || stream >= m.c.Streams {
		return api.ErrStream
	}
	long := len(parts) > 3
	for _, part := range parts {
		long = long || len(part) > 15
	}
	bytes := []byte(asBytes(parts))
	if long || len(bytes) > m.c.Window {
		return api.ErrLong
	}
	if m.lane[stream].closed {
		return api.ErrClosed
	}
	if m.queued()+len(bytes) > m.c.Queue {
		return api.ErrFull
	}
	m.lane[stream].queue = append(m.lane[stream].queue, bytes)
	return api.OK
}

func (m *model) cancel(stream int) api.Errno {
	if stream < 0 || stream >= m.c.Streams {
		return api.ErrStream
	}
	if m.lane[stream].closed {
		return api.ErrClosed
	}
	m.lane[stream] = lane{credit: m.lane[stream].credit, closed: true}
	m.frames = append(m.frames, cancelled(stream))
	return api.OK
}

func (m *model) write(most int) string {
	out := ""
	for len(out) < most {
		if m.line == "" {
			m.choose()
		}
		if m.line == "" {
			return out
		}
		out, m.line = out+m.line[:1], m.line[1:]
	}
	return out
}

func (m *model) choose() {
	if len(m.frames) > 0 {
		m.line, m.frames = m.frames[0], m.frames[1:]
		return
	}
	begin := m.turn
	for {
		l := &m.lane[m.turn]
		if len(l.queue) == 0 {
			l.deficit = 0
		} else if l.credit > 0 {
			m.put(l)
			return
		}
		m.next()
		if m.turn == begin {
			return
		}
	}
}

func (m *model) next() {
	m.turn++
	if m.turn == m.c.Streams {
		m.turn = 0
	}
	m.justBegun = true
}

func (m *model) put(l *lane) {
	worth := m.c.Quantum * m.c.Weights[m.turn]
	if m.justBegun {
		l.deficit += worth
		m.justBegun = false
	}
	payload := ""
	for l.put < len(l.queue[0]) && len(payload) < m.c.Chunk && l.credit > 0 && l.deficit > 0 {
		payload += string(l.queue[0][l.put : l.put+1])
		l.put++
		l.credit--
		l.deficit--
	}
	m.line = data(m.turn, payload)
	if l.put == len(l.queue[0]) {
		l.queue, l.put = l.queue[1:], 0
	}
	if len(l.queue) == 0 {
		l.deficit = 0
		m.next()
	} else if l.deficit == 0 {
		m.next()
	} else if l.credit == 0 {
		if l.deficit > worth {
			l.deficit = worth
		}
		m.next()
	}
}

func anyConfig(r *rand.Rand) api.Config {
	c := api.Config{Streams: 1 + r.IntN(4), Quantum: 1 + r.IntN(8), Chunk: 1 + r.IntN(8), Patience: 1 + r.IntN(9)}
	c.Window, c.Queue = 8+r.IntN(20), 1+r.IntN(100)
	if r.IntN(4) == 0 {
		c.Window, c.Queue = 8+r.IntN(243), 1+r.IntN(600)
	}
	for i := range c.Weights {
		c.Weights[i] = 1 + r.IntN(4)
		if i >= c.Streams {
			c.Weights[i] = r.IntN(100) - 50
		}
	}
	return c
}

// anyParts is mostly a message, and mostly a short one.
func anyParts(r *rand.Rand) []string {
	parts := make([]string, r.IntN(5)*r.IntN(5)/4)
	for i := range parts {
		parts[i] = text(r.IntN(256), r.IntN(7))
		if r.IntN(8) == 0 {
			parts[i] = text(r.IntN(256), r.IntN(17))
		}
	}
	return parts
}

// both does one thing with an end and with its model, and tells what they answered.
func both(r *rand.Rand, e *skein.End, m *model) (call, got, want string) {
	stream := r.IntN(m.c.Streams+2) - 1
	switch n := r.IntN(40); {
	case n == 0:
		return fmt.Sprintf("Cancel(%d)", stream), fmt.Sprint(e.Cancel(stream)), fmt.Sprint(m.cancel(stream))
	case n < 16:
		parts := anyParts(r)
		return fmt.Sprintf("Submit(%d, %q)", stream, parts), fmt.Sprint(e.Submit(stream, parts)), fmt.Sprint(m.submit(stream, parts))
	case n < 22:
		stream = r.IntN(m.c.Streams)
		bytes := r.IntN(m.c.Window - m.lane[stream].credit + 1)
		e.Grant(stream, bytes)
		m.lane[stream].credit += bytes
		return fmt.Sprintf("Credit of %d for %d", bytes, stream), "", ""
	default:
		most := r.IntN(20) - 2
		if r.IntN(20) == 0 {
			most = math.MaxInt
		}
		return fmt.Sprintf("Write(%d)", most), e.Write(most), m.write(most)
	}
}

func expectLikeModel(t *testing.T, e *skein.End, m *model) {
	t.Helper()
	expectState(t, e, m.queued())
	for number := range m.c.Streams {
		l := m.lane[number]
		expectFlow(t, e, number, api.Flow{Credit: l.credit, Owed: m.c.Window, Deficit: l.deficit, NoSend: l.closed})
		if l.deficit < 0 || l.deficit > 2*m.c.Quantum*m.c.Weights[number] || l.credit < 0 || l.credit > m.c.Window {
			t.Fatalf("P16: Credit %d, Deficit %d by %+v", l.credit, l.deficit, m.c)
		}
	}
}

// Several ends, each with its model, go on beside one another, at random (always the same).
func TestP9LikeTheModel(t *testing.T) {
	for seed := range uint64(400) {
		r := rand.New(rand.NewPCG(seed, 2))
		var ends []*skein.End
		var models []*model
		for range 3 {
			c := anyConfig(r)
			ends, models = append(ends, newEnd(t, c)), append(models, newModel(c))
		}
		var calls []string
		for range 400 {
			i := r.IntN(len(ends))
			call, got, want := both(r, ends[i], models[i])
			calls = append(calls, fmt.Sprintf("%d: %s", i, call))
			if got != want {
				t.Fatalf("by %+v: %q: %q, want %q", models[i].c, calls, got, want)
			}
			for i := range ends {
				expectLikeModel(t, ends[i], models[i])
			}
		}
	}
}
