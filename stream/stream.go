// Package stream: what an end keeps of one stream.
package stream

import "skein/api"

// Stream is one stream, as one end sees it.
type Stream struct {
	api.Flow
	queue []string // of each message, what was not put into frames yet
}

// New gives a stream on which window bytes may go either way.
func New(window int) *Stream {
	return &Stream{Flow: api.Flow{Credit: window, Owed: window}}
}

// Queued tells how many bytes were not put into frames yet.
func (s *Stream) Queued() int {
	sum := 0
	for _, left := range s.queue {
		sum += len(left)
	}
	return sum
}

// Add lays the bytes of a message behind all others of the queue.
func (s *Stream) Add(message string) {
	s.queue = append(s.queue, message)
}

// CloseSending gives up all that was not put into frames yet, and any more.
func (s *Stream) CloseSending() {
	s.queue = nil
	s.NoSend = true
	s.Deficit = 0
}

// Idle tells whether nothing is in the queue.
func (s *Stream) Idle() bool {
	return len(s.queue) == 0
}

// CanSend tells whether there is something to send, and credit for it.
func (s *Stream) CanSend() bool {
	return !s.Idle() && s.Credit > 0
}

// Cut takes bytes off the first message, for a frame: as many as Credit and Deficit allow, and pays for them. Only a stream that can send is cut.
func (s *Stream) Cut(chunk int) string {
	first := s.queue[0]
	n := min(len(first), chunk, s.Credit, s.Deficit)
	s.Credit -= n
	s.Deficit -= n
	s.keep(first[n:])
	return first[:n]
}

// keep leaves no message in the queue that is all in frames.
func (s *Stream) keep(left string) {
	s.queue[0] = left
	if left == "" {
		s.queue = s.queue[1:]
	}
}
