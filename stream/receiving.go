package stream

import (
	"skein/api"
	"skein/message"
)

// Held tells how many bytes of messages are kept.
func (s *Stream) Held() int {
	return total(s.whole) + len(s.coming)
}

// MayCome tells whether so many bytes of Data may come. The other end may not know yet that this one has reset the stream, and is not held to Owed then; of its own Cancel it knows.
func (s *Stream) MayCome(length int) bool {
	return !s.cancelled && (s.NoReceive || length <= s.Owed)
}

// take does what Data does. It comes on a stream that is closed only where this end has reset it.
func (s *Stream) take(payload string, window int) api.Errno {
	if s.NoReceive {
		return api.OK
	}
	s.Owed -= len(payload)
	s.still = 0
	// By index: ranging over a string would go by runes, not by bytes.
	for i := range len(payload) {
		s.coming += payload[i : i+1]
		size, errno := message.Size(s.coming)
		if errno != api.OK || size > window {
			return api.ErrTable
		}
		if size == len(s.coming) {
			s.whole = append(s.whole, s.coming)
			s.coming = ""
		}
	}
	return api.OK
}

// First gives the bytes of the first message that is whole; none, if there is no such message.
func (s *Stream) First() string {
	if len(s.whole) == 0 {
		return ""
	}
	return s.whole[0]
}

// Release throws the first message away that is whole, and tells how many bytes more may come for it.
func (s *Stream) Release() int {
	size := len(s.whole[0])
	s.whole[0] = ""
	s.whole = s.whole[1:]
	s.Owed += size
	return size
}

// Tick lets a unit of time go by, and tells whether a message that is coming has stood still for patience units by then. On a stream that is closed for receiving, as all of a dead end are, none is coming.
func (s *Stream) Tick(patience int) bool {
	if s.coming == "" {
		return false
	}
	s.still++
	return s.still >= patience
}

// CloseReceiving gives up all that is held, and any more.
func (s *Stream) CloseReceiving() {
	s.whole = nil
	s.coming = ""
	s.NoReceive = true
}
