// Package outbox: frames on their way to the line.
package outbox

import "strings"

// Outbox holds the frames that are ahead of any turn of a stream, and what is left of the one that is being given.
type Outbox struct {
	rest    string   // of the frame whose first byte was given
	waiting []string // frames of which no byte was given, in the order in which they came to be
}

// Add lays a frame behind all others that are waiting.
func (o *Outbox) Add(frame string) {
	o.waiting = append(o.waiting, frame)
}

// Drop throws away the frames of which no byte was given. The one that is being given stays: half a frame would spoil the line.
func (o *Outbox) Drop() {
	o.waiting = nil
}

// Write gives the next bytes, at most most of them. Only where a byte is wanted and no frame is waiting does it ask for another one, since asking takes it out of a queue; an empty one means that there is none.
func (o *Outbox) Write(most int, another func() string) string {
	var line strings.Builder
	for line.Len() < most {
		if o.rest == "" {
			o.rest = o.next(another)
		}
		if o.rest == "" {
			break
		}
		n := min(len(o.rest), most-line.Len())
		line.WriteString(o.rest[:n])
		o.rest = o.rest[n:]
	}
	return line.String()
}

func (o *Outbox) next(another func() string) string {
	if len(o.waiting) == 0 {
		return another()
	}
	first := o.waiting[0]
	o.waiting[0] = ""
	o.waiting = o.waiting[1:]
	return first
}
