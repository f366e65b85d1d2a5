package skein_test

import (
	"slices"
	"strings"
	"testing"

	"skein/api"
	"skein/skein"
)

// plain is the configuration of the document's example.
func plain() api.Config {
	return api.Config{Streams: 2, Weights: [4]int{1, 2}, Quantum: 2, Chunk: 3, Window: 20, Queue: 50, Patience: 2}
}

// even is a configuration of so many streams that are worth the same.
func even(streams, quantum, chunk int) api.Config {
	return api.Config{Streams: streams, Weights: [4]int{1, 1, 1, 1}, Quantum: quantum, Chunk: chunk, Window: 250, Queue: 600, Patience: 1}
}

// sized is a message of so many bytes (2 to 49), all different from start to start.
func sized(start, size int) []string {
	switch {
	case size <= 2+api.MaxPart:
		return []string{text(start, size-2)}
	case size <= 3+2*api.MaxPart:
		return []string{text(start, api.MaxPart), text(start+7, size-3-api.MaxPart)}
	default:
		return []string{text(start, api.MaxPart), text(start+7, api.MaxPart), text(start+11, size-4-2*api.MaxPart)}
	}
}

func frameBytes(kind, stream int, payload string) string {
	return string([]byte{byte(kind), byte(stream), byte(len(payload)), remainder(kind, stream, len(payload))}) + payload
}

func data(stream int, payload string) string { return frameBytes(api.Data, stream, payload) }

func cancelled(stream int) string { return frameBytes(api.Cancel, stream, "") }

func credited(stream, bytes int) string {
	return frameBytes(api.Credit, stream, string([]byte{byte(bytes)}))
}

func resetted(stream int) string { return frameBytes(api.Reset, stream, "") }

func gone(of int) string { return frameBytes(api.Away, 0, string([]byte{byte(of)})) }

func newEnd(t *testing.T, c api.Config) *skein.End {
	t.Helper()
	e, errno := skein.New(c)
	if e == nil || errno != api.OK {
		t.Fatalf("P5: New(%+v): %v, %d", c, e, errno)
	}
	return e
}

func submit(t *testing.T, e *skein.End, stream int, parts ...string) {
	t.Helper()
	if errno := e.Submit(stream, parts); errno != api.OK {
		t.Fatalf("P6: Submit(%d, %q) = %d", stream, parts, errno)
	}
}

func cancel(t *testing.T, e *skein.End, stream int) {
	t.Helper()
	if errno := e.Cancel(stream); errno != api.OK {
		t.Fatalf("P7: Cancel(%d) = %d", stream, errno)
	}
}

func read(t *testing.T, e *skein.End, frames ...string) {
	t.Helper()
	expectRead(t, e, strings.Join(frames, ""), api.OK)
}

func expectRead(t *testing.T, e *skein.End, s string, want api.Errno) {
	t.Helper()
	if errno := e.Read(s); errno != want {
		t.Fatalf("P10: Read(%.200q) = %d, want %d", s, errno, want)
	}
}

// deadly is bytes of which any end dies that awaits a frame, if its stream 0 was not cancelled there, awaits a message and is owed a byte.
func deadly(of api.Errno) string {
	switch of {
	case api.ErrCheck:
		return "\x01\x00\x01\x00"
	case api.ErrFrame:
		return frameBytes(9, 0, "")
	case api.ErrCredit:
		return credited(0, 255)
	case api.ErrTable:
		return data(0, "\x04")
	}
	return gone(0)
}

// causes are all that an end can die of.
func causes() []api.Errno {
	return []api.Errno{api.ErrCheck, api.ErrFrame, api.ErrCredit, api.ErrTable, api.ErrAway}
}

func kill(t *testing.T, e *skein.End, of api.Errno) {
	t.Helper()
	expectRead(t, e, deadly(of), of)
}

func tick(e *skein.End, units int) {
	for range units {
		e.Tick()
	}
}

func expectReceive(t *testing.T, e *skein.End, stream int, want ...string) {
	t.Helper()
	if parts, errno := e.Receive(stream); !slices.Equal(parts, want) || errno != api.OK {
		t.Fatalf("P12: Receive(%d) = %q, %d, want %q", stream, parts, errno, want)
	}
}

func expectNoReceive(t *testing.T, e *skein.End, stream int, want api.Errno) {
	t.Helper()
	if parts, errno := e.Receive(stream); parts != nil || errno != want {
		t.Fatalf("P12: Receive(%d) = %q, %d, want nothing and %d", stream, parts, errno, want)
	}
	if errno := e.Release(stream); errno != want {
		t.Fatalf("P12: Release(%d) = %d, want %d", stream, errno, want)
	}
}

func release(t *testing.T, e *skein.End, stream int) {
	t.Helper()
	if errno := e.Release(stream); errno != api.OK {
		t.Fatalf("P12: Release(%d) = %d", stream, errno)
	}
}

func expectWrite(t *testing.T, e *skein.End, most int, frames ...string) {
	t.Helper()
	if s, want := e.Write(most), strings.Join(frames, ""); s != want {
		t.Fatalf("P8, P9: Write(%d) = %q, want %q", most, s, want)
	}
}

// expectState is for an end that lives and holds nothing.
func expectState(t *testing.T, e *skein.End, queued int) {
	t.Helper()
	expectKept(t, e, queued, 0, api.OK)
}

func expectKept(t *testing.T, e *skein.End, queued, held int, died api.Errno) {
	t.Helper()
	if s, want := e.State(), (api.State{Queued: queued, Held: held, Died: died}); s != want {
		t.Fatalf("P14: State() = %+v, want %+v", s, want)
	}
}

func expectFlow(t *testing.T, e *skein.End, stream int, want api.Flow) {
	t.Helper()
	if f, errno := e.Flow(stream); f != want || errno != api.OK {
		t.Fatalf("P14: Flow(%d) = %+v, %d, want %+v", stream, f, errno, want)
	}
}

// expectWithin holds an end's numbers to their bounds (P16).
func expectWithin(t *testing.T, c api.Config, e *skein.End) {
	t.Helper()
	s := e.State()
	if s.Queued < 0 || s.Queued > c.Queue || s.Held < 0 || s.Held > c.Streams*c.Window {
		t.Fatalf("P16: %+v by %+v", s, c)
	}
	for number := range c.Streams {
		f, _ := e.Flow(number)
		if min(f.Credit, f.Owed, f.Deficit) < 0 || max(f.Credit, f.Owed) > c.Window || f.Deficit > 2*c.Quantum*c.Weights[number] {
			t.Fatalf("P16: %+v by %+v", f, c)
		}
	}
}

// sent is one frame that was written.
type sent struct {
	kind, stream int
	payload      string
}

// cut cuts what was written into its frames, of which the last must be whole.
func cut(t *testing.T, line string) []sent {
	t.Helper()
	var frames []sent
	for line != "" {
		if len(line) < 4 || len(line) < 4+int(line[2]) || line[3] != remainder(int(line[0]), int(line[1]), int(line[2])) {
			t.Fatalf("P8: no frame: %q", line)
		}
		end := 4 + int(line[2])
		frames = append(frames, sent{int(line[0]), int(line[1]), line[4:end]})
		line = line[end:]
	}
	return frames
}
