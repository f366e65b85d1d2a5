package skein_test

import (
	"slices"
	"strings"
	"testing"
	"unsafe"

	"skein/api"
	"skein/skein"
)

// text is n bytes, among them 0 and such as are no whole runes, that differ from start to start.
func text(start, n int) string {
	b := make([]byte, n)
	for i := range b {
		b[i] = byte(start + i*85)
	}
	return string(b)
}

// everyShape gives a message for each number of parts and each length of each part.
func everyShape(yield func([]string) bool) {
	var grow func(parts []string) bool
	grow = func(parts []string) bool {
		if !yield(slices.Clone(parts)) {
			return false
		}
		for n := 0; n <= api.MaxPart && len(parts) < api.MaxParts; n++ {
			if !grow(append(slices.Clone(parts), text(len(parts)*31, n))) {
				return false
			}
		}
		return true
	}
	grow(nil)
}

// asBytes is a message as bytes, as the document's words have it.
func asBytes(parts []string) string {
	table := []byte{byte(len(parts))}
	for _, part := range parts {
		table = append(table, byte(len(part)))
	}
	return string(table) + strings.Join(parts, "")
}

func expectNoMessage(t *testing.T, s string) {
	t.Helper()
	if parts, e := skein.Unpack(s); parts != nil || e != api.ErrTable {
		t.Fatalf("P3: Unpack(%.80q) = %q, %d, want nothing and ErrTable", s, parts, e)
	}
}

func expectTooLong(t *testing.T, parts []string) {
	t.Helper()
	if s, e := skein.Pack(parts); s != "" || e != api.ErrLong {
		t.Errorf("P3: Pack of %d parts = %.80q, %d, want nothing and ErrLong", len(parts), s, e)
	}
}

func TestP3Known(t *testing.T) {
	for _, c := range []struct {
		parts []string
		want  string
	}{
		{nil, "\x00"},
		{[]string{}, "\x00"},
		{[]string{""}, "\x01\x00"},
		{[]string{"ab", ""}, "\x02\x02\x00ab"},
		{[]string{"", "", ""}, "\x03\x00\x00\x00"},
		{[]string{"\xff\x00", "é", "z"}, "\x03\x02\x02\x01\xff\x00éz"},
	} {
		if s, e := skein.Pack(c.parts); s != c.want || e != api.OK {
			t.Errorf("P3: Pack(%q) = %q, %d, want %q", c.parts, s, e, c.want)
		}
		if parts, e := skein.Unpack(c.want); !slices.Equal(parts, c.parts) || e != api.OK {
			t.Errorf("P3: Unpack(%q) = %q, %d, want %q", c.want, parts, e, c.parts)
		}
	}
}

func TestP3EveryShapeThereAndBack(t *testing.T) {
	shapes, least, most := 0, 1000, 0
	for parts := range everyShape {
		s, e := skein.Pack(parts)
		if s != asBytes(parts) || e != api.OK {
			t.Fatalf("P3: Pack(%q) = %q, %d", parts, s, e)
		}
		if back, e := skein.Unpack(s); !slices.Equal(back, parts) || e != api.OK {
			t.Fatalf("P3: Unpack(%q) = %q, %d, want %q", s, back, e, parts)
		}
		shapes, least, most = shapes+1, min(least, len(s)), max(most, len(s))
	}
	if shapes != 1+16+16*16+16*16*16 || least != 1 || most != 49 {
		t.Errorf("%d shapes of sizes %d to %d", shapes, least, most)
	}
}

func TestP3TooShortAndTooLong(t *testing.T) {
	for parts := range everyShape {
		s := asBytes(parts)
		for n := range len(s) {
			expectNoMessage(t, s[:n])
		}
		expectNoMessage(t, s+"\x00")
		expectNoMessage(t, s+"more")
	}
}

func TestP3WrongTables(t *testing.T) {
	for count := api.MaxParts + 1; count < 256; count++ {
		expectNoMessage(t, string([]byte{byte(count)}))
		expectNoMessage(t, string([]byte{byte(count)})+strings.Repeat("\x00", count))
		expectNoMessage(t, string([]byte{byte(count)})+strings.Repeat("\x01", count)+strings.Repeat("x", count))
	}
	for length := api.MaxPart + 1; length < 256; length++ {
		bad, body := string([]byte{byte(length)}), strings.Repeat("x", length)
		for _, table := range []string{"\x01" + bad, "\x02\x00" + bad, "\x02" + bad + "\x00", "\x03\x00\x00" + bad, "\x03" + bad + "\x00\x00"} {
			expectNoMessage(t, table)
			expectNoMessage(t, table+body)
			expectNoMessage(t, table+body[:api.MaxPart])
		}
	}
}

// Every text of a few bytes that matter is either what some message has as bytes, or refused.
func TestP3UnpackOfAllShortTexts(t *testing.T) {
	letters := []byte{0, 1, 2, 3, 4, 15, 16, 255}
	var grow func(s string)
	grow = func(s string) {
		if parts, e := skein.Unpack(s); e == api.OK {
			if len(parts) > api.MaxParts || asBytes(parts) != s {
				t.Fatalf("P3: Unpack(%q) = %q", s, parts)
			}
		} else if e != api.ErrTable || parts != nil {
			t.Fatalf("P1: Unpack(%q) = %q, %d", s, parts, e)
		}
		for _, b := range letters {
			if len(s) < 6 {
				grow(s + string([]byte{b}))
			}
		}
	}
	grow("")
}

func TestP3PackRefuses(t *testing.T) {
	fits, over := text(1, api.MaxPart), text(1, api.MaxPart+1)
	for _, parts := range [][]string{
		make([]string, api.MaxParts+1), make([]string, 256), make([]string, 257), make([]string, 1<<20),
		{over}, {over, ""}, {"", over}, {"", over, ""}, {fits, fits, over}, {over, over, over, over},
		{strings.Repeat("x", 255)}, {strings.Repeat("x", 256)}, {"a", strings.Repeat("x", 271)},
	} {
		expectTooLong(t, parts)
	}
}

func TestP1GreatInputs(t *testing.T) {
	great := strings.Repeat("\x03", 1<<24)
	expectTooLong(t, []string{great})
	expectTooLong(t, []string{"", "", great})
	for _, table := range []string{"", "\x00", "\x01\x0f", "\x03\x0f\x0f\x0f", "\xff"} {
		expectNoMessage(t, table+great)
	}
}

func TestP2PackLeavesWhatIsHandedIn(t *testing.T) {
	room := []string{"ab", "c", "room", "behind"}
	for n := range len(room) + 1 {
		skein.Pack(room[:n])
		if !slices.Equal(room, []string{"ab", "c", "room", "behind"}) {
			t.Fatalf("P2: behind Pack of %d parts: %q", n, room)
		}
	}
}

func TestP2UnpackGivesNewLists(t *testing.T) {
	const s = "\x02\x02\x01abc"
	first, _ := skein.Unpack(s)
	second, _ := skein.Unpack(s)
	whole := first[:cap(first)]
	for i := range whole {
		whole[i] = "other"
	}
	third, e := skein.Unpack(s)
	want := []string{"ab", "c"}
	if !slices.Equal(second, want) || !slices.Equal(third, want) || e != api.OK {
		t.Errorf("P2: lists share memory: %q, %q, %d", second, third, e)
	}
}

// overlap tells whether two texts lie in the same memory.
func overlap(a, b string) bool {
	if a == "" || b == "" {
		return false
	}
	x, y := uintptr(unsafe.Pointer(unsafe.StringData(a))), uintptr(unsafe.Pointer(unsafe.StringData(b)))
	return x < y+uintptr(len(b)) && y < x+uintptr(len(a))
}

func TestP2NothingHandedInIsKept(t *testing.T) {
	s := asBytes([]string{text(1, 15), text(2, 1), text(3, 7)})
	parts, _ := skein.Unpack(s)
	packed, _ := skein.Pack(parts)
	if len(parts) != 3 || packed != s {
		t.Fatalf("P3: Unpack(%q) = %q, and Pack of that %q", s, parts, packed)
	}
	for _, part := range parts {
		if overlap(part, s) {
			t.Errorf("P2: part %q keeps the text that was handed in", part)
		}
		if overlap(part, packed) {
			t.Errorf("P2: what Pack gave keeps the part %q that was handed in", part)
		}
	}
}

func TestP2MessagesHangOnArgumentsAlone(t *testing.T) {
	for range 3 {
		if s, e := skein.Pack([]string{"ab", ""}); s != "\x02\x02\x00ab" || e != api.OK {
			t.Errorf("P2: Pack = %q, %d", s, e)
		}
		expectTooLong(t, make([]string, 4))
		expectNoMessage(t, "\x01\x02a")
		if parts, e := skein.Unpack("\x01\x01b"); !slices.Equal(parts, []string{"b"}) || e != api.OK {
			t.Errorf("P2: Unpack = %q, %d", parts, e)
		}
	}
}
