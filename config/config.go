// Package config: which configurations may be.
package config

import "skein/api"

// Valid tells whether c is a configuration.
func Valid(c api.Config) bool {
	return from(1, c.Streams, api.MaxStreams) &&
		weighted(c) &&
		from(1, c.Quantum, api.MaxQuantum) &&
		from(1, c.Chunk, api.MaxChunk) &&
		from(api.MinWindow, c.Window, api.MaxWindow) &&
		from(1, c.Queue, api.MaxQueue) &&
		from(1, c.Patience, api.MaxPatience)
}

// weighted asks for the weights of streams alone: those of other numbers may be anything.
func weighted(c api.Config) bool {
	for _, weight := range c.Weights[:c.Streams] {
		if !from(1, weight, api.MaxWeight) {
			return false
		}
	}
	return true
}

func from(least, n, most int) bool {
	return least <= n && n <= most
}
