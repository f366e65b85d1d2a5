// Package skein: many streams of messages over one line of bytes, in turns, with no more memory than was told: see DOC.md.
package skein

import (
	"skein/api"
	"skein/frame"
	"skein/message"
)

// Pack writes a message as bytes (P3).
func Pack(parts []string) (string, api.Errno) { return message.Pack(parts) }

// Unpack reads a message (P3).
func Unpack(s string) ([]string, api.Errno) { return message.Unpack(s) }

// Header writes a frame's first four bytes (P4).
func Header(kind int, stream int, length int) (string, api.Errno) {
	return frame.Header(kind, stream, length)
}

// End is one of two ends.
type End struct{}

// New makes an end (P5).
func New(c api.Config) (*End, api.Errno) { return nil, api.OK }

// Submit lays a message into a stream's queue (P6).
func (e *End) Submit(stream int, parts []string) api.Errno { return api.OK }

// Cancel gives up sending on a stream (P7).
func (e *End) Cancel(stream int) api.Errno { return api.OK }

// Write gives the next bytes to be sent (P8, P9).
func (e *End) Write(most int) string { return "" }

// Read takes bytes that came (P10, P11).
func (e *End) Read(s string) api.Errno { return api.OK }

// Receive tells the first message of a stream (P12).
func (e *End) Receive(stream int) ([]string, api.Errno) { return nil, api.OK }

// Release lets the first message of a stream go (P12).
func (e *End) Release(stream int) api.Errno { return api.OK }

// Tick lets time go by (P13).
func (e *End) Tick() {}

// State tells how much is kept (P14).
func (e *End) State() api.State { return api.State{} }

// Flow tells how a stream stands (P14).
func (e *End) Flow(stream int) (api.Flow, api.Errno) { return api.Flow{}, api.OK }
