package skein_test

import (
	"strings"

	"skein/api"
)

// model does what P5 to P15 say, word by word, and has nothing in common with the program.
type model struct {
	c         api.Config
	lane      [4]lane
	turn      int
	justBegun bool
	frames    []string // that are to be sent
	line      string   // what was chosen and not given
	part      string   // what came of a frame
	died      api.Errno
	time      int
}

type lane struct {
	queue           [][]byte
	put             int // of the first one
	credit, deficit int
	closed          bool // for sending

	came                       string // and was not released
	last                       int    // when the last byte came
	owed                       int
	shut                       bool // closed for receiving
	hadCancel, hadReset, gavUp bool
}

func newModel(c api.Config) *model {
	m := &model{c: c, justBegun: true}
	for i := range c.Streams {
		m.lane[i].credit, m.lane[i].owed = c.Window, c.Window
	}
	return m
}

func (m *model) state() api.State {
	s := api.State{Died: m.died}
	for _, l := range m.lane {
		for _, bytes := range l.queue {
			s.Queued += len(bytes)
		}
		s.Queued -= l.put
		s.Held += len(l.came)
	}
	return s
}

func (m *model) flow(stream int) api.Flow {
	if m.died != api.OK {
		return api.Flow{NoSend: true, NoReceive: true}
	}
	l := m.lane[stream]
	return api.Flow{Credit: l.credit, Owed: l.owed, Deficit: l.deficit, NoSend: l.closed, NoReceive: l.shut}
}

// refuses is what all calls refuse first.
func (m *model) refuses(stream int) api.Errno {
	if m.died != api.OK {
		return api.ErrDead
	}
	if stream < 0 || stream >= m.c.Streams {
		return api.ErrStream
	}
	return api.OK
}

func (m *model) submit(stream int, parts []string) api.Errno {
	if errno := m.refuses(stream); errno != api.OK {
		return errno
	}
	long := len(parts) > 3
	for _, part := range parts {
		long = long || len(part) > 15
	}
	bytes := []byte(asBytes(parts))
	if long || len(bytes) > m.c.Window {
		return api.ErrLong
	}
	if m.lane[stream].closed {
		return api.ErrClosed
	}
	if m.state().Queued+len(bytes) > m.c.Queue {
		return api.ErrFull
	}
	m.lane[stream].queue = append(m.lane[stream].queue, bytes)
	return api.OK
}

func (l *lane) close() {
	l.queue, l.put, l.deficit, l.closed = nil, 0, 0, true
}

func (m *model) cancel(stream int) api.Errno {
	if errno := m.refuses(stream); errno != api.OK {
		return errno
	}
	if m.lane[stream].closed {
		return api.ErrClosed
	}
	m.lane[stream].close()
	m.frames = append(m.frames, cancelled(stream))
	return api.OK
}

func (m *model) write(most int) string {
	out := ""
	for len(out) < most {
		if m.line == "" {
			m.choose()
		}
		if m.line == "" {
			return out
		}
		out, m.line = out+m.line[:1], m.line[1:]
	}
	return out
}

func (m *model) choose() {
	if len(m.frames) > 0 {
		m.line, m.frames = m.frames[0], m.frames[1:]
		return
	}
	if m.died != api.OK {
		return
	}
	begin := m.turn
	for {
		l := &m.lane[m.turn]
		if len(l.queue) == 0 {
			l.deficit = 0
		} else if l.credit > 0 {
			m.put(l)
			return
		}
		m.next()
		if m.turn == begin {
			return
		}
	}
}

func (m *model) next() {
	m.turn++
	if m.turn == m.c.Streams {
		m.turn = 0
	}
	m.justBegun = true
}

func (m *model) put(l *lane) {
	worth := m.c.Quantum * m.c.Weights[m.turn]
	if m.justBegun {
		l.deficit += worth
		m.justBegun = false
	}
	payload := ""
	for l.put < len(l.queue[0]) && len(payload) < m.c.Chunk && l.credit > 0 && l.deficit > 0 {
		payload += string(l.queue[0][l.put : l.put+1])
		l.put++
		l.credit--
		l.deficit--
	}
	m.line = data(m.turn, payload)
	if l.put == len(l.queue[0]) {
		l.queue, l.put = l.queue[1:], 0
	}
	if len(l.queue) == 0 {
		l.deficit = 0
		m.next()
	} else if l.deficit == 0 {
		m.next()
	} else if l.credit == 0 {
		if l.deficit > worth {
			l.deficit = worth
		}
		m.next()
	}
}

func (m *model) read(s string) api.Errno {
	if m.died != api.OK {
		return api.ErrDead
	}
	for _, b := range []byte(s) {
		m.part += string([]byte{b})
		wrong := api.OK
		if len(m.part) == 4 {
			wrong = m.header(int(m.part[0]), int(m.part[1]), int(m.part[2]))
		}
		if wrong == api.OK && len(m.part) >= 4 && len(m.part) == 4+int(m.part[2]) {
			wrong = m.frame(&m.lane[m.part[1]], int(m.part[0]), m.part[4:])
			m.part = ""
		}
		if wrong != api.OK {
			m.die(wrong)
			return wrong
		}
	}
	return api.OK
}

func (m *model) header(kind, stream, length int) api.Errno {
	if m.part[3] != remainder(kind, stream, length) {
		return api.ErrCheck
	}
	may := kind >= 1 && kind <= 5 && stream < m.c.Streams
	may = may && (kind != api.Data || length >= 1 && length <= m.c.Chunk)
	may = may && (kind != api.Credit || length == 1)
	may = may && (kind != api.Cancel || length == 0)
	may = may && (kind != api.Reset || length == 0)
	may = may && (kind != api.Away || length == 1 && stream == 0)
	if !may {
		return api.ErrFrame
	}
	if l := m.lane[stream]; kind == api.Data && (l.hadCancel || !l.gavUp && length > l.owed) {
		return api.ErrCredit
	}
	return api.OK
}

func (m *model) frame(l *lane, kind int, payload string) api.Errno {
	switch {
	case kind == api.Data && !l.gavUp:
		l.owed -= len(payload)
		l.came += payload
		l.last = m.time
		if _, _, wrong := whole(l.came, m.c.Window); wrong {
			return api.ErrTable
		}
	case kind == api.Credit && payload == "\x00":
		return api.ErrFrame
	case kind == api.Credit && int(payload[0]) > m.c.Window-l.credit:
		return api.ErrCredit
	case kind == api.Credit:
		l.credit += int(payload[0])
	case kind == api.Cancel && l.hadCancel || kind == api.Reset && l.hadReset:
		return api.ErrFrame
	case kind == api.Cancel:
		l.hadCancel, l.shut, l.came = true, true, ""
	case kind == api.Reset:
		l.hadReset = true
		l.close()
	case kind == api.Away:
		return api.ErrAway
	}
	return api.OK
}

// whole takes messages apart that came one behind the other: those that are whole, and what is left; or it is wrong.
func whole(came string, window int) (messages [][]string, left string, wrong bool) {
	for came != "" {
		count := int(came[0])
		if count > 3 {
			return nil, "", true
		}
		size, known := 1+count, true
		for i := 1; i <= count; i++ {
			if i >= len(came) {
				known = false
			} else if came[i] > 15 {
				return nil, "", true
			} else {
				size += int(came[i])
			}
		}
		if known && size > window {
			return nil, "", true
		}
		if !known || size > len(came) {
			return messages, came, false
		}
		var parts []string
		at := 1 + count
		for i := 1; i <= count; i++ {
			parts = append(parts, came[at:at+int(came[i])])
			at += int(came[i])
		}
		messages, came = append(messages, parts), came[size:]
	}
	return messages, "", false
}

func (m *model) die(of api.Errno) {
	*m = model{c: m.c, line: m.line, died: of}
	if of != api.ErrAway {
		m.frames = []string{gone(int(of))}
	}
}

func (m *model) receive(stream int) ([]string, api.Errno) {
	if errno := m.refuses(stream); errno != api.OK {
		return nil, errno
	}
	if m.lane[stream].shut {
		return nil, api.ErrClosed
	}
	messages, _, _ := whole(m.lane[stream].came, m.c.Window)
	if len(messages) == 0 {
		return nil, api.ErrNone
	}
	return messages[0], api.OK
}

func (m *model) release(stream int) api.Errno {
	parts, errno := m.receive(stream)
	if errno != api.OK {
		return errno
	}
	l, size := &m.lane[stream], len(asBytes(parts))
	l.came = strings.TrimPrefix(l.came, asBytes(parts))
	l.owed += size
	m.frames = append(m.frames, credited(stream, size))
	return api.OK
}

func (m *model) tick() {
	m.time++
	if m.died != api.OK {
		return
	}
	for stream := range m.c.Streams {
		l := &m.lane[stream]
		_, left, _ := whole(l.came, m.c.Window)
		if !l.shut && left != "" && l.last <= m.time-m.c.Patience {
			l.came, l.shut, l.gavUp = "", true, true
			m.frames = append(m.frames, resetted(stream))
		}
	}
}
