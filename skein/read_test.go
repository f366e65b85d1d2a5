package skein_test

import (
	"strings"
	"testing"

	"skein/api"
	"skein/skein"
)

// fault is something wrong, which the last one of the bytes tells.
type fault struct {
	what    string
	ahead   string // comes first, and nothing is wrong with it
	bytes   string
	dies    api.Errno
	prepare func(t *testing.T, e *skein.End) // ahead of all bytes
}

// faults are for an end by plain: two streams, a Chunk of 3, a Window of 20.
func faults() []fault {
	twoParts := data(0, "\x02\x0f")
	writes := func(t *testing.T, e *skein.End) {
		submit(t, e, 1, "abcd")
		e.Write(1000)
	}
	return []fault{
		{what: "a wrong check byte", bytes: "\x01\x00\x01\x00", dies: api.ErrCheck},
		{what: "a wrong check byte of no frame that may be", bytes: "\x09\x09\x09\x00", dies: api.ErrCheck},
		{what: "a wrong check byte behind a frame", ahead: data(0, "\x00"), bytes: "\x03\x00\x00\x00", dies: api.ErrCheck},
		{what: "kind 0", bytes: frameBytes(0, 0, ""), dies: api.ErrFrame},
		{what: "kind 6", bytes: frameBytes(6, 0, ""), dies: api.ErrFrame},
		{what: "kind 255", bytes: frameBytes(255, 0, "a")[:4], dies: api.ErrFrame},
		{what: "Data for no stream", bytes: data(2, "\x00")[:4], dies: api.ErrFrame},
		{what: "Data of no bytes", bytes: data(0, ""), dies: api.ErrFrame},
		{what: "Data above Chunk", bytes: data(0, "abcd")[:4], dies: api.ErrFrame},
		{what: "Credit for no stream", bytes: credited(2, 1)[:4], dies: api.ErrFrame},
		{what: "Credit of no byte", bytes: frameBytes(api.Credit, 0, ""), dies: api.ErrFrame},
		{what: "Credit of two bytes", bytes: frameBytes(api.Credit, 0, "ab")[:4], dies: api.ErrFrame},
		{what: "Cancel for no stream", bytes: cancelled(2), dies: api.ErrFrame},
		{what: "Cancel with a byte", bytes: frameBytes(api.Cancel, 0, "a")[:4], dies: api.ErrFrame},
		{what: "Reset for no stream", bytes: resetted(255), dies: api.ErrFrame},
		{what: "Reset with a byte", bytes: frameBytes(api.Reset, 0, "a")[:4], dies: api.ErrFrame},
		{what: "Away for stream 1", bytes: frameBytes(api.Away, 1, "a")[:4], dies: api.ErrFrame},
		{what: "Away without a byte", bytes: frameBytes(api.Away, 0, ""), dies: api.ErrFrame},
		{what: "Away with two bytes", bytes: frameBytes(api.Away, 0, "ab")[:4], dies: api.ErrFrame},
		{what: "Data behind Cancel", ahead: cancelled(1), bytes: data(1, "\x00")[:4], dies: api.ErrCredit},
		{what: "Data behind more and Cancel", ahead: data(1, "\x01\x02a") + cancelled(1), bytes: data(1, "b")[:4], dies: api.ErrCredit},
		{what: "Data above Owed", ahead: strings.Repeat(data(1, "\x00\x00\x00"), 6), bytes: data(1, "\x00\x00\x00")[:4], dies: api.ErrCredit},
		{what: "Data with nothing owed", ahead: strings.Repeat(data(1, "\x00\x00"), 10), bytes: data(1, "\x00")[:4], dies: api.ErrCredit},
		{what: "Credit of 0", bytes: credited(0, 0), dies: api.ErrFrame},
		{what: "Credit of 0 where more may come", bytes: credited(1, 0), dies: api.ErrFrame, prepare: writes},
		{what: "Credit above Window", bytes: credited(0, 1), dies: api.ErrCredit},
		{what: "Credit far above Window", bytes: credited(0, 255), dies: api.ErrCredit},
		{what: "Credit above what was sent", bytes: credited(1, 7), dies: api.ErrCredit, prepare: writes},
		{what: "Credit above what was sent, in two", ahead: credited(1, 5), bytes: credited(1, 2), dies: api.ErrCredit, prepare: writes},
		{what: "Credit of another stream", bytes: credited(0, 6), dies: api.ErrCredit, prepare: writes},
		{what: "a second Cancel", ahead: cancelled(1), bytes: cancelled(1), dies: api.ErrFrame},
		{what: "a second Cancel behind Reset", ahead: cancelled(1) + resetted(1), bytes: cancelled(1), dies: api.ErrFrame},
		{what: "a second Reset", ahead: resetted(0), bytes: resetted(0), dies: api.ErrFrame},
		{what: "a second Reset behind Cancel", ahead: resetted(0) + cancelled(0) + cancelled(1), bytes: resetted(0), dies: api.ErrFrame},
		{what: "four parts", bytes: data(0, "\x04"), dies: api.ErrTable},
		{what: "255 parts", bytes: data(0, "\xff"), dies: api.ErrTable},
		{what: "four parts behind a message", bytes: data(0, "\x00\x04"), dies: api.ErrTable},
		{what: "four parts behind a message in another frame", ahead: data(0, "\x01\x01a"), bytes: data(0, "\x04"), dies: api.ErrTable},
		{what: "a part of 16", bytes: data(0, "\x01\x10"), dies: api.ErrTable},
		{what: "a part of 255", bytes: data(0, "\x01\xff"), dies: api.ErrTable},
		{what: "a first part of 16", bytes: data(0, "\x03\x10"), dies: api.ErrTable},
		{what: "a second part of 16", bytes: data(0, "\x03\x00\x10"), dies: api.ErrTable},
		{what: "a third part of 16", ahead: data(0, "\x03\x00\x00"), bytes: data(0, "\x10"), dies: api.ErrTable},
		{what: "a part of 16 beside another stream", ahead: data(0, "\x01") + data(1, "\x00\x01\x02"), bytes: data(0, "\x10"), dies: api.ErrTable},
		{what: "a message above Window", ahead: twoParts, bytes: data(0, "\x03"), dies: api.ErrTable},
		{what: "a message of three parts above Window", ahead: data(0, "\x03\x0f\x01"), bytes: data(0, "\x01"), dies: api.ErrTable},
		{what: "a message far above Window", ahead: data(0, "\x03\x0f\x0f"), bytes: data(0, "\x0f"), dies: api.ErrTable},
		{what: "four parts and more behind it", bytes: data(0, "\x04\x00\x00"), dies: api.ErrTable},
		{what: "a part of 16 and more behind it", bytes: data(0, "\x01\x10\x00"), dies: api.ErrTable},
		{what: "Away", bytes: gone(8), dies: api.ErrAway},
		{what: "Away with 0", bytes: gone(0), dies: api.ErrAway},
		{what: "Away with 255", bytes: gone(255), dies: api.ErrAway},
	}
}

func (f fault) end(t *testing.T) *skein.End {
	t.Helper()
	e := newEnd(t, plain())
	if f.prepare != nil {
		f.prepare(t, e)
	}
	return e
}

func (f fault) expectDead(t *testing.T, e *skein.End, errno api.Errno) {
	t.Helper()
	if errno != f.dies {
		t.Fatalf("P10: %s: %d, want %d", f.what, errno, f.dies)
	}
	expectKept(t, e, 0, 0, f.dies)
	expectRead(t, e, "", api.ErrDead)
	expectRead(t, e, data(0, "\x00"), api.ErrDead)
	expectKept(t, e, 0, 0, f.dies)
}

func TestP10TheByteThatTells(t *testing.T) {
	for _, f := range faults() {
		e := f.end(t)
		all := f.ahead + f.bytes
		for i := range len(all) - 1 {
			if errno := e.Read(all[i : i+1]); errno != api.OK {
				t.Fatalf("P10: %s: byte %d of %q: %d", f.what, i, all, errno)
			}
		}
		if died := e.State().Died; died != api.OK {
			t.Fatalf("P10: %s: dead of %d ahead of the last byte", f.what, died)
		}
		f.expectDead(t, e, e.Read(all[len(all)-1:]))
	}
}

func TestP10AtOnceAndInTwo(t *testing.T) {
	for _, f := range faults() {
		all := f.ahead + f.bytes
		e := f.end(t)
		f.expectDead(t, e, e.Read(all))
		for n := range len(all) {
			e := f.end(t)
			read(t, e, all[:n])
			read(t, e)
			f.expectDead(t, e, e.Read(all[n:]))
		}
	}
}

// What is behind the first that is wrong is thrown away, be it wrong itself or not.
func TestP10TheFirstThatIsWrong(t *testing.T) {
	for _, f := range faults() {
		for _, behind := range []string{"x", strings.Repeat("\x00", 40), data(0, "\x00"), cancelled(0) + resetted(1)} {
			e := f.end(t)
			f.expectDead(t, e, e.Read(f.ahead+f.bytes+behind))
		}
		for _, of := range causes() {
			e := f.end(t)
			f.expectDead(t, e, e.Read(f.ahead+f.bytes+deadly(of)))
		}
	}
}

// A header of several faults tells the first that P10 names.
func TestP10HeaderFaultsInOrder(t *testing.T) {
	for bits := range 1 << 3 {
		unchecked, mayNot, uncredited := bits&1 != 0, bits&2 != 0, bits&4 != 0
		e := newEnd(t, plain())
		header, want := data(1, "abc")[:4], api.OK
		if uncredited {
			read(t, e, strings.Repeat(data(1, "\x00\x00\x00"), 6))
			want = api.ErrCredit
		}
		if mayNot {
			header, want = data(1, "abcd")[:4], api.ErrFrame
		}
		if unchecked {
			header, want = header[:3]+string([]byte{header[3] ^ 1}), api.ErrCheck
		}
		expectRead(t, e, header, want)
	}
}

func TestP10EveryWrongCheckByte(t *testing.T) {
	for _, frame := range []string{data(0, "\x00"), credited(1, 1), cancelled(0), resetted(1), gone(3), frameBytes(9, 9, "")} {
		for wrong := 1; wrong < 256; wrong++ {
			e := newEnd(t, plain())
			read(t, e, frame[:3])
			expectRead(t, e, string([]byte{frame[3] ^ byte(wrong)}), api.ErrCheck)
		}
	}
}

// mayBe is the document's list of frames that may be.
func mayBe(c api.Config, kind, stream, length int) bool {
	switch kind {
	case api.Data:
		return stream < c.Streams && length >= 1 && length <= c.Chunk
	case api.Credit:
		return stream < c.Streams && length == 1
	case api.Cancel, api.Reset:
		return stream < c.Streams && length == 0
	case api.Away:
		return stream == 0 && length == 1
	}
	return false
}

func TestP10FramesThatMayBe(t *testing.T) {
	for streams := 1; streams <= 4; streams++ {
		for chunk := 1; chunk <= 8; chunk++ {
			c := even(streams, 1, chunk)
			for _, kind := range []int{0, 1, 2, 3, 4, 5, 6, 7, 8, 128, 129, 255} {
				for _, stream := range []int{0, 1, 2, 3, 4, 5, 128, 255} {
					for _, length := range []int{0, 1, 2, 3, 4, 5, 6, 7, 8, 9, 128, 129, 255} {
						want := api.OK
						if !mayBe(c, kind, stream, length) {
							want = api.ErrFrame
						}
						e := newEnd(t, c)
						read(t, e, frameBytes(kind, stream, strings.Repeat("x", length))[:3])
						expectRead(t, e, string([]byte{remainder(kind, stream, length)}), want)
					}
				}
			}
		}
	}
}

func TestP10OwedEdge(t *testing.T) {
	for window := 8; window <= 20; window++ {
		for came := 0; came <= window; came++ {
			for length := 1; length <= 8; length++ {
				c := small(window, 1, 1)
				e := newEnd(t, c)
				read(t, e, strings.Repeat(data(1, "\x00"), came))
				want := api.OK
				if length > window-came {
					want = api.ErrCredit
				}
				expectRead(t, e, data(1, strings.Repeat("\x00", length))[:4], want)
			}
		}
	}
}

func TestP10CreditEdge(t *testing.T) {
	for size := 2; size <= 20; size++ {
		for bytes := range 256 {
			c := small(20, 4, 1)
			e := newEnd(t, c)
			submit(t, e, 0, sized(0, size)...)
			for e.Write(1000) != "" {
			}
			expectFlow(t, e, 0, api.Flow{Credit: 20 - size, Owed: 20})
			want := api.OK
			if bytes == 0 {
				want = api.ErrFrame
			} else if bytes > size {
				want = api.ErrCredit
			}
			expectRead(t, e, credited(0, bytes), want)
			if want == api.OK {
				expectFlow(t, e, 0, api.Flow{Credit: 20 - size + bytes, Owed: 20})
			}
		}
	}
}

// Every message that is not above Window may come, and the table of every other is refused with its last length, at the end of its frame.
func TestP10EveryTable(t *testing.T) {
	for window := 8; window <= 56; window += 3 {
		for parts := range everyShape {
			c := small(window, 1)
			e := newEnd(t, c)
			message := asBytes(parts)
			table := 1 + len(parts)
			read(t, e, data(0, message[:table])[:3+table])
			if len(message) > window {
				expectRead(t, e, message[table-1:table], api.ErrTable)
				continue
			}
			read(t, e, message[table-1:table])
			for rest := message[table:]; rest != ""; rest = rest[min(8, len(rest)):] {
				expectNoReceive(t, e, 0, api.ErrNone)
				read(t, e, data(0, rest[:min(8, len(rest))]))
			}
			expectReceive(t, e, 0, parts...)
			expectFlow(t, e, 0, api.Flow{Credit: window, Owed: window - len(message)})
		}
	}
}

func TestP10EveryNumberOfATable(t *testing.T) {
	for ahead, most := range map[string]int{"": 3, "\x00": 3, "\x01\x01a": 3, "\x01": 15, "\x02": 15, "\x02\x0f": 15, "\x03\x00": 15, "\x03\x01\x02": 15} {
		for number := range 256 {
			e := newEnd(t, even(1, 8, 1))
			for i := range len(ahead) {
				read(t, e, data(0, ahead[i:i+1]))
			}
			want := api.OK
			if number > most {
				want = api.ErrTable
			}
			expectRead(t, e, data(0, string([]byte{byte(number)})), want)
		}
	}
}

// Whatever is wrong in a Data frame is told with its last byte, wherever in it the wrong one stands.
func TestP10WrongInTheMidstOfData(t *testing.T) {
	for _, payload := range []string{"\x04abcdefg", "\x00\x04abcdef", "\x01\x10abcdef", "\x01\x02ab\x04cde", "\x03\x00\x00\x10abcd"} {
		e := newEnd(t, even(1, 8, 8))
		frame := data(0, payload)
		for i := range len(frame) - 1 {
			read(t, e, frame[i:i+1])
		}
		expectKept(t, e, 0, 0, api.OK)
		expectRead(t, e, frame[len(frame)-1:], api.ErrTable)
	}
}

func TestP1GreatReads(t *testing.T) {
	for _, great := range []string{strings.Repeat("\x00", 1<<22), strings.Repeat("\x01", 1<<22), strings.Repeat("\xff", 1<<22)} {
		e := newEnd(t, plain())
		if errno := e.Read(great); errno == api.OK || errno == api.ErrDead {
			t.Errorf("P10: Read of many equal bytes = %d", errno)
		}
		expectRead(t, e, great, api.ErrDead)
	}
	e := newEnd(t, plain())
	for range 2000 {
		read(t, e, strings.Repeat(data(1, "\x00\x00"), 10))
		for range 20 {
			release(t, e, 1)
		}
	}
	if line := e.Write(1 << 30); line != strings.Repeat(credited(1, 1), 40000) {
		t.Errorf("P8: %d bytes of Credit", len(line))
	}
}

func TestP2ReadKeepsNothing(t *testing.T) {
	e := newEnd(t, even(1, 8, 8))
	line := data(0, "\x01\x0aabcdef") + data(0, "ghij\x00")
	read(t, e, line)
	parts, _ := e.Receive(0)
	again, _ := e.Receive(0)
	if len(parts) != 1 || parts[0] != "abcdefghij" || overlap(parts[0], line) || overlap(parts[0], again[0]) {
		t.Errorf("P2: Receive = %q, then %q", parts, again)
	}
}
