// Package stream: what an end keeps of one stream.
package stream

import "skein/api"

// Stream is one stream, as one end sees it.
type Stream struct {
	api.Flow
	queue     []string // of each message, what was not put into frames yet
	whole     []string // messages that came whole and were not released, as bytes
	coming    string   // the bytes of the message that is coming
	still     int      // units of time that went by since the last of these bytes came
	cancelled bool     // a Cancel came
	reset     bool     // a Reset came
}

// New gives a stream on which window bytes may go either way.
func New(window int) *Stream {
	return &Stream{Flow: api.Flow{Credit: window, Owed: window}}
}

// Do does what a frame does that came for the stream, and tells what is wrong with it. Away is for the whole end, which dies of it.
func (s *Stream) Do(kind int, payload string, window int) api.Errno {
	had, shut := &s.cancelled, s.CloseReceiving
	switch kind {
	case api.Data:
		return s.take(payload, window)
	case api.Credit:
		return s.grant(int(payload[0]), window)
	case api.Reset:
		// The other end will not receive any more: the same as Cancel, the other way round.
		had, shut = &s.reset, s.CloseSending
		fallthrough
	case api.Cancel:
		if *had {
			return api.ErrFrame
		}
		*had = true
		shut()
		return api.OK
	default:
		return api.ErrAway
	}
}

// Die throws everything away: on a dead end's stream nothing goes either way.
func (s *Stream) Die() {
	*s = Stream{Flow: api.Flow{NoSend: true, NoReceive: true}}
}
