// Package skein: many streams of messages over one line of bytes, in turns, with no more memory than was told: see DOC.md.
package skein

import (
	"skein/api"
	"skein/config"
	"skein/frame"
	"skein/message"
	"skein/outbox"
	"skein/stream"
	"skein/turns"
)

// Pack writes a message as bytes (P3).
func Pack(parts []string) (string, api.Errno) { return message.Pack(parts) }

// Unpack reads a message (P3).
func Unpack(s string) ([]string, api.Errno) { return message.Unpack(s) }

// Header writes a frame's first four bytes (P4).
func Header(kind int, stream int, length int) (string, api.Errno) {
	return frame.Header(kind, stream, length)
}

// End is one of two ends.
type End struct {
	config  api.Config
	streams map[int]*stream.Stream // by their numbers
	turns   turns.Turns
	outbox  outbox.Outbox
	coming  frame.Coming // what came of the frame that is coming
	died    api.Errno    // OK while it lives
}

// New makes an end (P5).
func New(c api.Config) (*End, api.Errno) {
	if !config.Valid(c) {
		return nil, api.ErrConfig
	}
	e := &End{config: c, streams: make(map[int]*stream.Stream)}
	for number := range c.Streams {
		e.streams[number] = stream.New(c.Window)
	}
	return e, api.OK
}

// Submit lays a message into a stream's queue (P6).
func (e *End) Submit(stream int, parts []string) api.Errno {
	s, errno := e.living(stream)
	if errno != api.OK {
		return errno
	}
	bytes, errno := message.Pack(parts)
	switch {
	case errno != api.OK || len(bytes) > e.config.Window:
		return api.ErrLong
	case s.NoSend:
		return api.ErrClosed
	case e.queued()+len(bytes) > e.config.Queue:
		return api.ErrFull
	}
	s.Add(bytes)
	return api.OK
}

// Cancel gives up sending on a stream (P7).
func (e *End) Cancel(stream int) api.Errno {
	s, errno := e.living(stream)
	if errno != api.OK {
		return errno
	}
	if s.NoSend {
		return api.ErrClosed
	}
	s.CloseSending()
	e.outbox.Add(frame.Make(api.Cancel, stream, ""))
	return api.OK
}

// Write gives the next bytes to be sent (P8, P9).
func (e *End) Write(most int) string { return e.outbox.Write(most, e.data) }

// Read takes bytes that came (P10, P11).
func (e *End) Read(s string) (wrong api.Errno) {
	if e.died != api.OK {
		return api.ErrDead
	}
	defer func() {
		if wrong != api.OK {
			e.die(wrong)
		}
	}()
	// By index: ranging over a string would go by runes, not by bytes.
	for i := range len(s) {
		if wrong = e.take(s[i]); wrong != api.OK {
			return wrong
		}
	}
	return api.OK
}

// Receive tells the first message of a stream (P12).
func (e *End) Receive(stream int) ([]string, api.Errno) {
	s, errno := e.ready(stream)
	if errno != api.OK {
		return nil, errno
	}
	return message.Unpack(s.First())
}

// Release lets the first message of a stream go (P12).
func (e *End) Release(stream int) api.Errno {
	s, errno := e.ready(stream)
	if errno != api.OK {
		return errno
	}
	e.outbox.Add(frame.Number(api.Credit, stream, s.Release()))
	return api.OK
}

// Tick lets time go by (P13).
func (e *End) Tick() {
	for number, s := range e.all {
		if s.Tick(e.config.Patience) {
			s.CloseReceiving()
			e.outbox.Add(frame.Make(api.Reset, number, ""))
		}
	}
}

// State tells how much is kept (P14).
func (e *End) State() api.State {
	return api.State{Queued: e.queued(), Held: e.held(), Died: e.died}
}

// Flow tells how a stream stands (P14).
func (e *End) Flow(stream int) (api.Flow, api.Errno) {
	s, there := e.streams[stream]
	if !there {
		return api.Flow{}, api.ErrStream
	}
	return s.Flow, api.OK
}

// living gives a stream of an end that lives, or the refusal that comes ahead of any other.
func (e *End) living(number int) (*stream.Stream, api.Errno) {
	if e.died != api.OK {
		return nil, api.ErrDead
	}
	s, there := e.streams[number]
	if !there {
		return nil, api.ErrStream
	}
	return s, api.OK
}

// ready gives a stream of which a message is whole, or why none can be had.
func (e *End) ready(number int) (*stream.Stream, api.Errno) {
	s, errno := e.living(number)
	switch {
	case errno != api.OK:
		return nil, errno
	case s.NoReceive:
		return nil, api.ErrClosed
	case s.First() == "":
		return nil, api.ErrNone
	}
	return s, api.OK
}

// all goes through the streams in the order of their numbers, of which a map knows none.
func (e *End) all(yield func(int, *stream.Stream) bool) {
	for number := range e.config.Streams {
		if !yield(number, e.streams[number]) {
			return
		}
	}
}

func (e *End) queued() int { return e.sum((*stream.Stream).Queued) }

func (e *End) held() int { return e.sum((*stream.Stream).Held) }

// sum is worked out when it is asked for, as the streams tell it.
func (e *End) sum(of func(*stream.Stream) int) int {
	sum := 0
	for _, s := range e.all {
		sum += of(s)
	}
	return sum
}

// data gives the next Data frame, by turns; none, if no stream can send, as none of a dead end can.
func (e *End) data() string {
	number, bytes := e.turns.Choose(e.config, e.streams)
	if bytes == "" {
		return ""
	}
	return frame.Make(api.Data, number, bytes)
}

// take lays a byte behind the others of the frame that is coming, and tells what is wrong then. A frame is done when it is whole, and not ahead of that, whatever its first bytes are.
func (e *End) take(b byte) api.Errno {
	e.coming = append(e.coming, b)
	if e.coming.Headed() {
		if wrong := e.admit(e.coming); wrong != api.OK {
			return wrong
		}
	}
	if !e.coming.Whole() {
		return api.OK
	}
	f := e.coming
	e.coming = nil
	return e.streams[f.Stream()].Do(f.Kind(), f.Payload(), e.config.Window)
}

// admit tells what is wrong with a header. What comes behind it is kept only if nothing is: so no more than a Chunk of a frame is ever kept.
func (e *End) admit(f frame.Coming) api.Errno {
	switch {
	case !f.Checked():
		return api.ErrCheck
	case !f.MayBe(e.config):
		return api.ErrFrame
	case f.Kind() == api.Data && !e.streams[f.Stream()].MayCome(f.Length()):
		return api.ErrCredit
	}
	return api.OK
}

// die throws away all but the rest of the frame whose first byte was given, and tells the other end why; one that went away itself is told nothing.
func (e *End) die(of api.Errno) {
	e.died = of
	e.coming = nil
	for _, s := range e.all {
		s.Die()
	}
	e.outbox.Drop()
	if of != api.ErrAway {
		e.outbox.Add(frame.Number(api.Away, 0, int(of)))
	}
}
