package skein_test

import (
	"strings"
	"testing"

	"skein/api"
	"skein/skein"
)

// plain is the configuration of the document's example.
func plain() api.Config {
	return api.Config{Streams: 2, Weights: [4]int{1, 2}, Quantum: 2, Chunk: 3, Window: 20, Queue: 50, Patience: 2}
}

// even is a configuration of so many streams that are worth the same.
func even(streams, quantum, chunk int) api.Config {
	return api.Config{Streams: streams, Weights: [4]int{1, 1, 1, 1}, Quantum: quantum, Chunk: chunk, Window: 250, Queue: 600, Patience: 1}
}

// sized is a message of so many bytes (2 to 49), all different from start to start.
func sized(start, size int) []string {
	switch {
	case size <= 2+api.MaxPart:
		return []string{text(start, size-2)}
	case size <= 3+2*api.MaxPart:
		return []string{text(start, api.MaxPart), text(start+7, size-3-api.MaxPart)}
	default:
		return []string{text(start, api.MaxPart), text(start+7, api.MaxPart), text(start+11, size-4-2*api.MaxPart)}
	}
}

func frameBytes(kind, stream int, payload string) string {
	return string([]byte{byte(kind), byte(stream), byte(len(payload)), remainder(kind, stream, len(payload))}) + payload
}

func data(stream int, payload string) string { return frameBytes(api.Data, stream, payload) }

func cancelled(stream int) string { return frameBytes(api.Cancel, stream, "") }

func newEnd(t *testing.T, c api.Config) *skein.End {
	t.Helper()
	e, errno := skein.New(c)
	if e == nil || errno != api.OK {
		t.Fatalf("P5: New(%+v): %v, %d", c, e, errno)
	}
	return e
}

func submit(t *testing.T, e *skein.End, stream int, parts ...string) {
	t.Helper()
	if errno := e.Submit(stream, parts); errno != api.OK {
		t.Fatalf("P6: Submit(%d, %q) = %d", stream, parts, errno)
	}
}

func cancel(t *testing.T, e *skein.End, stream int) {
	t.Helper()
	if errno := e.Cancel(stream); errno != api.OK {
		t.Fatalf("P7: Cancel(%d) = %d", stream, errno)
	}
}

func expectWrite(t *testing.T, e *skein.End, most int, frames ...string) {
	t.Helper()
	if s, want := e.Write(most), strings.Join(frames, ""); s != want {
		t.Fatalf("P8, P9: Write(%d) = %q, want %q", most, s, want)
	}
}

func expectState(t *testing.T, e *skein.End, queued int) {
	t.Helper()
	if s, want := e.State(), (api.State{Queued: queued}); s != want {
		t.Fatalf("P14: State() = %+v, want %+v", s, want)
	}
}

func expectFlow(t *testing.T, e *skein.End, stream int, want api.Flow) {
	t.Helper()
	if f, errno := e.Flow(stream); f != want || errno != api.OK {
		t.Fatalf("P14: Flow(%d) = %+v, %d, want %+v", stream, f, errno, want)
	}
}

// sent is one frame that was written.
type sent struct {
	kind, stream int
	payload      string
}

// cut cuts what was written into its frames, of which the last must be whole.
func cut(t *testing.T, line string) []sent {
	t.Helper()
	var frames []sent
	for line != "" {
		if len(line) < 4 || len(line) < 4+int(line[2]) || line[3] != remainder(int(line[0]), int(line[1]), int(line[2])) {
			t.Fatalf("P8: no frame: %q", line)
		}
		end := 4 + int(line[2])
		frames = append(frames, sent{int(line[0]), int(line[1]), line[4:end]})
		line = line[end:]
	}
	return frames
}
