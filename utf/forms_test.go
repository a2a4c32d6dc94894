package utf_test

// Promise 1.1: Runes, Halves, Text, FromHalves.

import (
	"math"
	"slices"
	"strings"
	"testing"

	"rosetta/api"
	"rosetta/plain"
	"rosetta/utf"
)

// isRune, bytesOf and halvesOf are what chapter 1 says, reckoned without the library.
func isRune(r rune) bool {
	return r >= 0 && r <= 0x10FFFF && (r < 0xD800 || r > 0xDFFF)
}

func bytesOf(r rune) string {
	tail := func(shift int) byte { return byte(0x80 | r>>shift&0x3F) }
	switch {
	case r < 0x80:
		return string([]byte{byte(r)})
	case r < 0x800:
		return string([]byte{byte(0xC0 | r>>6), tail(0)})
	case r < 0x10000:
		return string([]byte{byte(0xE0 | r>>12), tail(6), tail(0)})
	}
	return string([]byte{byte(0xF0 | r>>18), tail(12), tail(6), tail(0)})
}

func halvesOf(r rune) []uint16 {
	if r < 0x10000 {
		return []uint16{uint16(r)}
	}
	bits := r - 0x10000
	return []uint16{0xD800 | uint16(bits/1024), 0xDC00 | uint16(bits%1024)}
}

// wantForm fails unless err is ErrForm, in an At at that place.
func wantForm(t *testing.T, what string, err error, at int) {
	t.Helper()
	if e, place := plain.Place(err); e != api.ErrForm || place != at {
		t.Errorf("%s: error %d at %d, not ErrForm at %d", what, e, place, at)
	}
}

// sound fails unless the four functions turn the three forms of one text into one another.
func sound(t *testing.T, s string, l []rune, h []uint16) {
	t.Helper()
	if got, err := utf.Runes(s); err != nil || !slices.Equal(got, l) {
		t.Errorf("Runes(%q) = %x, %v, not %x", s, got, err, l)
	}
	if got, err := utf.Halves(s); err != nil || !slices.Equal(got, h) {
		t.Errorf("Halves(%q) = %x, %v, not %x", s, got, err, h)
	}
	if got, err := utf.Text(l); err != nil || got != s {
		t.Errorf("Text(%x) = %q, %v, not %q", l, got, err, s)
	}
	if got, err := utf.FromHalves(h); err != nil || got != s {
		t.Errorf("FromHalves(%x) = %q, %v, not %q", h, got, err, s)
	}
}

func TestForms(t *testing.T) {
	sound(t, "", nil, nil)
	sound(t, "abc", []rune{'a', 'b', 'c'}, []uint16{'a', 'b', 'c'})
	sound(t, "a\xF0\x9F\x98\x80\n", []rune{'a', 0x1F600, '\n'}, []uint16{'a', 0xD83D, 0xDE00, '\n'})
	sound(t, "\xC3\xA9\xE2\x82\xAC", []rune{0xE9, 0x20AC}, []uint16{0xE9, 0x20AC})
	// Not joined, not turned, not left out: a mark behind its letter, a byte order mark, a nought, U+FFFD.
	sound(t, "e\xCC\x81\xEF\xBB\xBF\x00\xEF\xBF\xBD", []rune{'e', 0x301, 0xFEFF, 0, 0xFFFD}, []uint16{'e', 0x301, 0xFEFF, 0, 0xFFFD})
	for _, n := range []int{31, 32, 33, 1000} {
		sound(t, strings.Repeat("\xF0\x9F\x98\x80", n), slices.Repeat([]rune{0x1F600}, n), slices.Repeat([]uint16{0xD83D, 0xDE00}, n))
	}
}

func TestEdgesOfRunes(t *testing.T) {
	sound(t, "\x7F\xC2\x80", []rune{0x7F, 0x80}, []uint16{0x7F, 0x80})
	sound(t, "\xDF\xBF\xE0\xA0\x80", []rune{0x7FF, 0x800}, []uint16{0x7FF, 0x800})
	sound(t, "\xED\x9F\xBF\xEE\x80\x80", []rune{0xD7FF, 0xE000}, []uint16{0xD7FF, 0xE000})
	sound(t, "\xEF\xBF\xBF\xF0\x90\x80\x80", []rune{0xFFFF, 0x10000}, []uint16{0xFFFF, 0xD800, 0xDC00})
	sound(t, "\xF4\x8F\xBF\xBF", []rune{0x10FFFF}, []uint16{0xDBFF, 0xDFFF})
	sound(t, "\xF0\x90\x8F\xBF\xF0\x90\x90\x80", []rune{0x103FF, 0x10400}, []uint16{0xD800, 0xDFFF, 0xD801, 0xDC00})
}

func TestAllRunes(t *testing.T) {
	var s strings.Builder
	var l []rune
	var h []uint16
	for r := rune(0); r <= 0x10FFFF; r++ {
		if isRune(r) {
			s.WriteString(bytesOf(r))
			l = append(l, r)
			h = append(h, halvesOf(r)...)
		}
	}
	if got, err := utf.Runes(s.String()); err != nil || !slices.Equal(got, l) {
		t.Error("Runes: not all runes, ", err)
	}
	if got, err := utf.Halves(s.String()); err != nil || !slices.Equal(got, h) {
		t.Error("Halves: not all runes, ", err)
	}
	if got, err := utf.Text(l); err != nil || got != s.String() {
		t.Error("Text: not all runes, ", err)
	}
	if got, err := utf.FromHalves(h); err != nil || got != s.String() {
		t.Error("FromHalves: not all runes, ", err)
	}
}

// badBytes are bytes with which no rune begins as it should be.
var badBytes = []string{
	// Bytes that go on where none has begun.
	"\x80", "\xBF", "\x80\x80",
	// More bytes than the rune needs.
	"\xC0\x80", "\xC0\xAF", "\xC1\xBF", "\xE0\x80\x80", "\xE0\x9F\xBF", "\xF0\x80\x80\x80", "\xF0\x8F\xBF\xBF",
	// D800, DBFF, DC00, DFFF, and two halves of one rune.
	"\xED\xA0\x80", "\xED\xAF\xBF", "\xED\xB0\x80", "\xED\xBF\xBF", "\xED\xA0\xBD\xED\xB8\x80",
	// Beyond 10FFFF, and five and six bytes.
	"\xF4\x90\x80\x80", "\xF5\x80\x80\x80", "\xF7\xBF\xBF\xBF", "\xF8\x88\x80\x80\x80", "\xFC\x84\x80\x80\x80\x80", "\xFE", "\xFF",
	// Cut off.
	"\xC3", "\xE2", "\xE2\x82", "\xF0", "\xF0\x9F", "\xF0\x9F\x98",
}

// wantBadBytes fails unless all that read bytes tell ErrForm at that one, and nothing else.
func wantBadBytes(t *testing.T, s string, at int) {
	t.Helper()
	l, err := utf.Runes(s)
	wantForm(t, "Runes", err, at)
	h, err := utf.Halves(s)
	wantForm(t, "Halves", err, at)
	c, err := utf.Count(s)
	wantForm(t, "Count", err, at)
	if len(l) != 0 || len(h) != 0 || c != (api.Counts{}) {
		t.Errorf("%q: with an error %x, %x, %v", s, l, h, c)
	}
}

func TestBadBytes(t *testing.T) {
	for _, bad := range badBytes {
		wantBadBytes(t, bad, 0)
		wantBadBytes(t, bad+"a\xFF", 0)
		wantBadBytes(t, bad+"\xF0\x9F\x98\x80", 0)
		// The At counts bytes: seven of them are ahead, in three runes.
		wantBadBytes(t, "\xC3\xA9\nA\xE2\x82\xAC"+bad+"z", 7)
		wantBadBytes(t, "\xC3\xA9\nA\xE2\x82\xAC"+bad, 7)
	}
}

func TestHalvesAsBytes(t *testing.T) {
	for r := rune(0xD800); r <= 0xDFFF; r++ {
		wantBadBytes(t, "ab"+bytesOf(r), 2)
	}
}

// edgeBytes are those at which what a byte may be changes.
var edgeBytes = []byte{0, '\n', 0x7F, 0x80, 0x8F, 0x90, 0x9F, 0xA0, 0xBF, 0xC0, 0xC1, 0xC2, 0xDF, 0xE0, 0xE1, 0xEC, 0xED, 0xEE, 0xEF, 0xF0, 0xF1, 0xF3, 0xF4, 0xF5, 0xF8, 0xFF}

// TestAllEdgeBytes holds Runes against a list of all runes' bytes.
func TestAllEdgeBytes(t *testing.T) {
	known := map[string]rune{}
	for r := rune(0); r <= 0x10FFFF; r++ {
		if isRune(r) {
			known[bytesOf(r)] = r
		}
	}
	read := func(s string) (l []rune, bad int) {
		for at := 0; at < len(s); {
			size := 1
			for size <= 4 && (at+size > len(s) || !has(known, s[at:at+size])) {
				size++
			}
			if size > 4 {
				return nil, at
			}
			l = append(l, known[s[at:at+size]])
			at += size
		}
		return l, -1
	}
	for _, a := range edgeBytes {
		for _, b := range edgeBytes {
			for _, c := range edgeBytes {
				for _, d := range edgeBytes {
					s := string([]byte{a, b, c, d})
					want, bad := read(s)
					l, err := utf.Runes(s)
					if _, place := plain.Place(err); place != bad || !slices.Equal(l, want) {
						t.Fatalf("Runes(%q) = %x, %v, not %x, %d", s, l, err, want, bad)
					}
				}
			}
		}
	}
}

func has(m map[string]rune, s string) bool {
	_, ok := m[s]
	return ok
}

func TestNoRunes(t *testing.T) {
	bad := []rune{-1, math.MinInt32, 0x110000, 0x1FFFFF, math.MaxInt32, 'a' - 0x110000}
	for r := rune(0xD800); r <= 0xDFFF; r++ {
		bad = append(bad, r)
	}
	for _, r := range bad {
		// The At counts runes, not bytes.
		for at := range 3 {
			l := []rune{0x1F600, 0x20AC, 'a', -1}
			l[at] = r
			s, err := utf.Text(l)
			wantForm(t, "Text", err, at)
			if s != "" {
				t.Errorf("Text(%x): with an error %q", l, s)
			}
		}
	}
	s, err := utf.Text([]rune{0xD83D, 0xDE00})
	wantForm(t, "Text of two halves", err, 0)
	if s != "" {
		t.Errorf("with an error %q", s)
	}
}

func TestHalvesThatStandAlone(t *testing.T) {
	for _, c := range []struct {
		halves []uint16
		at     int
	}{
		// The first one of two: at the beginning, between, at the end.
		{[]uint16{0xD800}, 0}, {[]uint16{0xDBFF, 'a'}, 0}, {[]uint16{'a', 0xD83D, 'b'}, 1}, {[]uint16{'a', 'b', 0xDBFF}, 2},
		// The second one.
		{[]uint16{0xDC00}, 0}, {[]uint16{0xDFFF, 'a'}, 0}, {[]uint16{'a', 0xDE00, 'b'}, 1}, {[]uint16{'a', 'b', 0xDC00}, 2},
		// In the wrong order, and two of a kind.
		{[]uint16{0xDE00, 0xD83D}, 0}, {[]uint16{0xD83D, 0xD83D, 0xDE00}, 0}, {[]uint16{0xD83D, 0xD83D}, 0}, {[]uint16{0xDE00, 0xDE00}, 0},
		// What is not quite a second one.
		{[]uint16{0xD83D, 0xDBFF}, 0}, {[]uint16{0xD83D, 0xE000}, 0}, {[]uint16{0xD83D, 0xD7FF}, 0},
		// Behind two that are one rune: the At counts halves.
		{[]uint16{0xD83D, 0xDE00, 0xDE00}, 2}, {[]uint16{0xD83D, 0xDE00, 0xD83D}, 2}, {[]uint16{0x20AC, 0xD83D, 0xDE00, 'a', 0xDC00, 0xD800}, 4},
	} {
		s, err := utf.FromHalves(c.halves)
		wantForm(t, "FromHalves", err, c.at)
		if s != "" {
			t.Errorf("FromHalves(%x): with an error %q", c.halves, s)
		}
	}
}

func TestEachHalfAlone(t *testing.T) {
	for n := 0; n <= 0xFFFF; n++ {
		s, err := utf.FromHalves([]uint16{'a', uint16(n), 'b'})
		if isRune(rune(n)) {
			if want := "a" + bytesOf(rune(n)) + "b"; err != nil || s != want {
				t.Errorf("%x: %q, %v", n, s, err)
			}
			continue
		}
		wantForm(t, "FromHalves", err, 1)
	}
}

// TestBehindALength: what stands behind a list's length is not looked at, and none is written into (P4).
func TestBehindALength(t *testing.T) {
	halves := []uint16{0xD83D, 0xDE00, 'x'}
	_, err := utf.FromHalves(halves[:1])
	wantForm(t, "FromHalves", err, 0)
	if s, err := utf.FromHalves(halves[:2]); err != nil || s != "\xF0\x9F\x98\x80" {
		t.Errorf("FromHalves: %q, %v", s, err)
	}
	runes := []rune{0x1F600, 'a', -1}
	if s, err := utf.Text(runes[:2]); err != nil || s != "\xF0\x9F\x98\x80a" {
		t.Errorf("Text: %q, %v", s, err)
	}
	if !slices.Equal(halves, []uint16{0xD83D, 0xDE00, 'x'}) || !slices.Equal(runes, []rune{0x1F600, 'a', -1}) {
		t.Errorf("what was handed in was changed: %x, %x", halves, runes)
	}
}

// TestFresh: what comes out is the caller's (P4).
func TestFresh(t *testing.T) {
	a, _ := utf.Runes("ab")
	_ = append(a[:0], 'x', 'y', 'z')
	if b, _ := utf.Runes("ab"); !slices.Equal(b, []rune{'a', 'b'}) {
		t.Errorf("Runes: %x", b)
	}
	h, _ := utf.Halves("ab")
	_ = append(h[:0], 'x', 'y', 'z')
	if b, _ := utf.Halves("ab"); !slices.Equal(b, []uint16{'a', 'b'}) {
		t.Errorf("Halves: %x", b)
	}
	l := []rune{'a', 'b'}
	s, _ := utf.Text(l)
	u, _ := utf.FromHalves(h)
	l[0], h[0] = 'z', 'q'
	if s != "ab" || u != "xy" {
		t.Errorf("a text changed with the list it came from: %q, %q", s, u)
	}
}
