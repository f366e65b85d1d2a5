// Package turns: which stream sends next, and how much of it.
package turns

import (
	"skein/api"
	"skein/stream"
)

// Turns tells whose turn it is. As it is made, it is that of stream 0, and has just begun.
type Turns struct {
	number int  // of the stream whose turn it is
	paid   bool // that stream got its share for this turn: it has not just begun
}

// Choose takes the next bytes for a Data frame out of the streams, and tells of which stream they are. If none can send, there are no bytes.
func (t *Turns) Choose(c api.Config, streams map[int]*stream.Stream) (int, string) {
	for range c.Streams {
		number := t.number
		if s := streams[number]; s.CanSend() {
			return number, t.send(c, s)
		}
		// No need to take a Deficit away here: whatever emptied the queue has done it.
		t.pass(c)
	}
	return 0, ""
}

// send lets the stream whose turn it is send some bytes.
func (t *Turns) send(c api.Config, s *stream.Stream) string {
	share := c.Quantum * c.Weights[t.number]
	if !t.paid {
		s.Deficit += share
		t.paid = true
	}
	bytes := s.Cut(c.Chunk)
	if over(s, share) {
		t.pass(c)
	}
	return bytes
}

// over tells whether the stream's turn ends behind a frame, and sees to what it takes along to its next one: nothing without a queue, and no more than a share without credit.
func over(s *stream.Stream, share int) bool {
	switch {
	case s.Idle():
		s.Deficit = 0
	case s.Deficit == 0:
	case s.Credit == 0:
		s.Deficit = min(s.Deficit, share)
	default:
		return false
	}
	return true
}

// pass lets the next one's turn begin.
func (t *Turns) pass(c api.Config) {
	t.number = (t.number + 1) % c.Streams
	t.paid = false
}
