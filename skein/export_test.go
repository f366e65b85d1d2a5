package skein

import "skein/api"

// Grant does by hand what a Credit frame does that comes.
func (e *End) Grant(stream, bytes int) { e.streams[stream].Credit += bytes }

// Kill does by hand what makes the calls know that an end is dead.
func (e *End) Kill(errno api.Errno) { e.died = errno }
