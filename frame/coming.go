package frame

import "skein/api"

const (
	fieldsSize = 3 // of the header's bytes, those that are checked
	headerSize = 4
)

// Coming is what came of a frame so far: its first bytes.
type Coming []byte

// Headed tells whether the byte that came last was the last one of the header.
func (f Coming) Headed() bool { return len(f) == headerSize }

// Whole tells whether the byte that came last was the last one of the frame.
func (f Coming) Whole() bool { return len(f) >= headerSize && len(f) == headerSize+f.Length() }

// Checked tells whether the check byte is the header's. Like all below, it is asked only when the header is there.
func (f Coming) Checked() bool { return Check(string(f[:fieldsSize])) == f[fieldsSize] }

// Kind is what the header tells of it.
func (f Coming) Kind() int { return int(f[0]) }

// Stream is the number of the stream that the frame is for.
func (f Coming) Stream() int { return int(f[1]) }

// Length is how long the payload is when it is whole.
func (f Coming) Length() int { return int(f[2]) }

// Payload is what came behind the header.
func (f Coming) Payload() string { return string(f[headerSize:]) }

// MayBe tells whether there are frames of such a kind, stream and length.
func (f Coming) MayBe(c api.Config) bool {
	streams, least, most := c.Streams, 0, 0
	switch f.Kind() {
	case api.Away:
		streams = 1
		fallthrough
	case api.Credit:
		least, most = 1, 1
	case api.Data:
		least, most = 1, c.Chunk
	case api.Cancel, api.Reset:
	default:
		return false
	}
	return f.Stream() < streams && least <= f.Length() && f.Length() <= most
}
