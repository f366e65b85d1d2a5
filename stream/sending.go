package stream

import "skein/api"

// Queued tells how many bytes were not put into frames yet.
func (s *Stream) Queued() int {
	return total(s.queue)
}

// Add lays the bytes of a message behind all others of the queue.
func (s *Stream) Add(message string) {
	s.queue = append(s.queue, message)
}

// CloseSending gives up all that was not put into frames yet, and any more.
func (s *Stream) CloseSending() {
	s.queue = nil
	s.NoSend = true
	s.Deficit = 0
}

// Idle tells whether nothing is in the queue.
func (s *Stream) Idle() bool {
	return len(s.queue) == 0
}

// CanSend tells whether there is something to send, and credit for it.
func (s *Stream) CanSend() bool {
	return !s.Idle() && s.Credit > 0
}

// Cut takes bytes off the first message, for a frame: as many as Credit and Deficit allow, and pays for them. Only a stream that can send is cut.
func (s *Stream) Cut(chunk int) string {
	first := s.queue[0]
	n := min(len(first), chunk, s.Credit, s.Deficit)
	s.Credit -= n
	s.Deficit -= n
	s.keep(first[n:])
	return first[:n]
}

// keep leaves no message in the queue that is all in frames.
func (s *Stream) keep(left string) {
	s.queue[0] = left
	if left == "" {
		s.queue = s.queue[1:]
	}
}

// grant lets so many bytes more be sent. No more than window are ever on their way or unreleased, so no more can be granted.
func (s *Stream) grant(bytes, window int) api.Errno {
	switch {
	case bytes == 0:
		return api.ErrFrame
	case bytes > window-s.Credit:
		return api.ErrCredit
	}
	s.Credit += bytes
	return api.OK
}

func total(messages []string) int {
	sum := 0
	for _, bytes := range messages {
		sum += len(bytes)
	}
	return sum
}
