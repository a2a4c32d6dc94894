package rope_test

// Promises 2.1 (New, Text, Counts, Splice) and 2.2 (Ahead, Line).

import (
	"math"
	"math/rand"
	"strings"
	"testing"

	"rosetta/api"
	"rosetta/plain"
	"rosetta/rope"
)

const (
	two   = "\u00E9"
	three = "\u20AC"
	four  = "\U0001F600"
)

// wantError fails unless err is that one, with that place (-1: with none).
func wantError(t *testing.T, what string, err error, want api.Errno, at int) {
	t.Helper()
	if e, place := plain.Place(err); e != want || place != at {
		t.Errorf("%s: error %d at %d, not %d at %d", what, e, place, want, at)
	}
}

// made is a document of a text that has no error.
func made(t *testing.T, s string) *rope.Rope {
	t.Helper()
	r, err := rope.New(s)
	if err != nil || r == nil {
		t.Fatalf("New(%q) = %v, %v", s, r, err)
	}
	return r
}

// runesOf is what some runes count, reckoned rune by rune.
func runesOf(l ...rune) api.Counts {
	var c api.Counts
	for _, r := range l {
		c.Bytes += len(string(r))
		c.Halves++
		if r > 0xFFFF {
			c.Halves++
		}
		c.Runes++
		if r == '\n' {
			c.Lines++
		}
	}
	return c
}

func in(c api.Counts, unit int) int {
	return map[int]int{api.Bytes: c.Bytes, api.Halves: c.Halves, api.Runes: c.Runes}[unit]
}

// holds fails unless the document is that text, in each way in which it may be asked.
func holds(t *testing.T, r *rope.Rope, s string) {
	t.Helper()
	if got := r.Text(); got != s {
		t.Fatalf("Text = %q, not %q", got, s)
	}
	l := []rune(s)
	if got := r.Counts(); got != runesOf(l...) {
		t.Fatalf("Counts of %q = %v", s, got)
	}
	for _, unit := range []int{api.Bytes, api.Halves, api.Runes} {
		placesHold(t, r, unit, l)
	}
	linesHold(t, r, l)
}

func placesHold(t *testing.T, r *rope.Rope, unit int, l []rune) {
	t.Helper()
	at := 0
	for i := 0; i <= len(l); i++ {
		want := runesOf(l[:i]...)
		for ; at < in(want, unit); at++ {
			got, err := r.Ahead(unit, at)
			wantError(t, "Ahead within a rune", err, api.ErrOrder, -1)
			if got != (api.Counts{}) {
				t.Fatalf("Ahead(%d, %d) of %q = %v beside an error", unit, at, string(l), got)
			}
		}
		if got, err := r.Ahead(unit, at); err != nil || got != want {
			t.Fatalf("Ahead(%d, %d) of %q = %v, %v, not %v", unit, at, string(l), got, err, want)
		}
		at++
	}
	for _, beyond := range []int{at, at + 1, math.MaxInt, -1, math.MinInt} {
		got, err := r.Ahead(unit, beyond)
		wantError(t, "Ahead beyond", err, api.ErrRange, -1)
		if got != (api.Counts{}) {
			t.Fatalf("Ahead(%d, %d) of %q = %v beside an error", unit, beyond, string(l), got)
		}
	}
}

func linesHold(t *testing.T, r *rope.Rope, l []rune) {
	t.Helper()
	line := 0
	for i := 0; i <= len(l); i++ {
		if i > 0 && l[i-1] != '\n' {
			continue
		}
		if got, err := r.Line(line); err != nil || got != runesOf(l[:i]...) {
			t.Fatalf("Line(%d) of %q = %v, %v, not %v", line, string(l), got, err, runesOf(l[:i]...))
		}
		line++
	}
	for _, beyond := range []int{line, line + 1, math.MaxInt, -1, math.MinInt} {
		got, err := r.Line(beyond)
		wantError(t, "Line beyond", err, api.ErrRange, -1)
		if got != (api.Counts{}) {
			t.Fatalf("Line(%d) of %q = %v beside an error", beyond, string(l), got)
		}
	}
}

// spliced fails unless a splice is done, and the document is that text then.
func spliced(t *testing.T, r *rope.Rope, at, drop int, put, want string) {
	t.Helper()
	if err := r.Splice(at, drop, put); err != nil {
		t.Fatalf("Splice(%d, %d, %q): %v", at, drop, put, err)
	}
	holds(t, r, want)
}

// refused fails unless a splice has that error, and leaves the document as it was.
func refused(t *testing.T, r *rope.Rope, at, drop int, put string, want api.Errno, place int) {
	t.Helper()
	text, counts := r.Text(), r.Counts()
	wantError(t, "Splice", r.Splice(at, drop, put), want, place)
	if r.Text() != text || r.Counts() != counts {
		t.Errorf("Splice(%d, %d, %q) of %q changed it to %q", at, drop, put, text, r.Text())
	}
}

func TestNew(t *testing.T) {
	for _, s := range []string{
		"", "a", "\n", "a" + four + "\n", two + three + four, "\uFFFD",
		strings.Repeat("a", api.Chunk-1), strings.Repeat("a", api.Chunk), strings.Repeat("a", api.Chunk+1),
		strings.Repeat("a", api.Chunk-1) + two, strings.Repeat("a", api.Chunk-2) + four,
		strings.Repeat(three, 40) + "\n" + strings.Repeat(four+"\n", 20),
	} {
		holds(t, made(t, s), s)
	}
}

func TestNewErrors(t *testing.T) {
	great := strings.Repeat("a", api.MaxHeld)
	for _, c := range []struct {
		text string
		want api.Errno
		at   int
	}{
		{"a\xFF", api.ErrForm, 1},
		{four + "\xE2\x82", api.ErrForm, 4},
		{great + "a", api.ErrFull, -1},
		{great[1:] + two, api.ErrFull, -1},
		{great + "\xFF", api.ErrForm, api.MaxHeld}, // Count's error is told first
		{great + great + "a\x80", api.ErrForm, 2*api.MaxHeld + 1},
	} {
		r, err := rope.New(c.text)
		wantError(t, "New", err, c.want, c.at)
		if r != nil {
			t.Errorf("New(%.10q..) is there beside an error", c.text)
		}
	}
}

func TestNewGreat(t *testing.T) {
	s := strings.Repeat("a\n", api.MaxHeld/2)
	r := made(t, s)
	if got, want := r.Counts(), (api.Counts{Bytes: 8000, Halves: 8000, Runes: 8000, Lines: 4000}); got != want || r.Text() != s {
		t.Errorf("Counts of 8000 bytes = %v", got)
	}
	// As full as it may be: bytes may be dropped, and put in their place.
	refused(t, r, 3, 0, "x", api.ErrFull, -1)
	refused(t, r, api.MaxHeld, 0, "x", api.ErrFull, -1)
	refused(t, r, 3, 1, two, api.ErrFull, -1)
	refused(t, r, 0, api.MaxHeld, s+"x", api.ErrFull, -1)
	if err := r.Splice(3, 1, "x"); err != nil || r.Text() != s[:3]+"x"+s[4:] {
		t.Errorf("Splice(3, 1, x) of 8000 bytes: %v", err)
	}
	if err := r.Splice(0, api.MaxHeld, s); err != nil || r.Text() != s {
		t.Errorf("Splice of all of 8000 bytes: %v", err)
	}
	if err := r.Splice(0, api.MaxHeld, ""); err != nil {
		t.Errorf("Splice of all of 8000 bytes: %v", err)
	}
	holds(t, r, "")
}

func TestZeroValue(t *testing.T) {
	var r rope.Rope
	holds(t, &r, "")
	refused(t, &r, 1, 0, "a", api.ErrRange, -1)
	refused(t, &r, 0, 1, "a", api.ErrRange, -1)
	spliced(t, &r, 0, 0, "a"+four, "a"+four)
}

// A pointer to none is asked like an empty document, and takes nothing.
func TestNone(t *testing.T) {
	var r *rope.Rope
	holds(t, r, "")
	if r.High() != 0 || r.Many() != 0 {
		t.Errorf("High, Many of none = %d, %d", r.High(), r.Many())
	}
	if r.Splice(0, 0, "a") == nil {
		t.Error("a splice into none is told as done")
	}
}

func TestSplice(t *testing.T) {
	r := made(t, "")
	spliced(t, r, 0, 0, "", "")
	spliced(t, r, 0, 0, "b"+four+"d", "b"+four+"d")
	spliced(t, r, 0, 0, "a", "ab"+four+"d")
	spliced(t, r, 7, 0, "e\n", "ab"+four+"de\n")
	spliced(t, r, 2, 4, three, "ab"+three+"de\n")
	spliced(t, r, 5, 0, "\n", "ab"+three+"\nde\n")
	spliced(t, r, 1, 5, "", "ade\n")
	spliced(t, r, 3, 1, "", "ade")
	spliced(t, r, 1, 0, "", "ade")
	spliced(t, r, 0, 3, "", "")
	spliced(t, r, 0, 0, "z", "z")
}

// Splices at, ahead of and behind the places at which chunks may end.
func TestSpliceAtChunks(t *testing.T) {
	for _, unit := range []string{"abcdefgh", "a" + three + four, "\n" + two} {
		s := strings.Repeat(unit, 96/len(unit))
		for _, put := range []string{"", "X", four, strings.Repeat("Y", api.Chunk), strings.Repeat("\nZ"+three, 30)} {
			for at := range len(s) + 1 {
				for _, drop := range []int{0, 1, 2, 8, api.Chunk, api.Chunk + 8} {
					spliceOnce(t, s, at, drop, put)
				}
			}
		}
	}
}

func spliceOnce(t *testing.T, s string, at, drop int, put string) {
	t.Helper()
	r := made(t, s)
	err := r.Splice(at, drop, put)
	switch {
	case drop > len(s)-at:
		wantError(t, "Splice", err, api.ErrRange, -1)
	case within(s, at) || within(s, at+drop):
		wantError(t, "Splice", err, api.ErrArg, -1)
	default:
		wantError(t, "Splice", err, api.OK, -1)
		s = s[:at] + put + s[at+drop:]
	}
	if r.Text() != s || r.Counts() != runesOf([]rune(s)...) {
		t.Fatalf("Splice(%d, %d, %q): %q, not %q", at, drop, put, r.Text(), s)
	}
}

// within says whether a place is within a rune.
func within(s string, at int) bool { return at < len(s) && s[at]&0xC0 == 0x80 }

func TestSpliceErrors(t *testing.T) {
	r := made(t, "a"+four+"b"+two)
	for _, c := range []struct {
		at, drop int
		put      string
		want     api.Errno
		place    int
	}{
		{0, 0, "a\xC3", api.ErrForm, 1},
		{0, 0, "\x80", api.ErrForm, 0},
		{-1, 0, "", api.ErrRange, -1},
		{9, 0, "", api.ErrRange, -1},
		{math.MaxInt, 0, "", api.ErrRange, -1},
		{math.MinInt, 0, "", api.ErrRange, -1},
		{0, -1, "", api.ErrRange, -1},
		{1, -1, "", api.ErrRange, -1},
		{0, 9, "", api.ErrRange, -1},
		{8, 1, "", api.ErrRange, -1},
		{5, math.MaxInt, "", api.ErrRange, -1},
		{0, math.MinInt, "", api.ErrRange, -1},
		{2, 0, "", api.ErrArg, -1},
		{3, 2, "", api.ErrArg, -1},
		{4, 0, "x", api.ErrArg, -1},
		{7, 1, "", api.ErrArg, -1},
		{1, 1, "", api.ErrArg, -1},
		{0, 4, "x", api.ErrArg, -1},
		{6, 1, "", api.ErrArg, -1},
		// Each error is told ahead of those behind it.
		{-1, 0, "\xFF", api.ErrForm, 0},
		{2, 0, "ab\xFF", api.ErrForm, 2},
		{2, 9, "", api.ErrRange, -1},
		{2, -1, "", api.ErrRange, -1},
		{9, 0, strings.Repeat("x", api.MaxHeld+1), api.ErrRange, -1},
		{2, 0, strings.Repeat("x", api.MaxHeld), api.ErrArg, -1},
		{1, 2, strings.Repeat("x", api.MaxHeld), api.ErrArg, -1},
		{0, 0, strings.Repeat("x", api.MaxHeld-7), api.ErrFull, -1},
		{0, 8, strings.Repeat("x", api.MaxHeld+1), api.ErrFull, -1},
		{1, 4, strings.Repeat("x", api.MaxHeld-3), api.ErrFull, -1},
		{0, 0, strings.Repeat("x", api.MaxHeld) + "\xFF", api.ErrForm, api.MaxHeld},
	} {
		refused(t, r, c.at, c.drop, c.put, c.want, c.place)
	}
	holds(t, r, "a"+four+"b"+two)
	if err := r.Splice(0, 0, strings.Repeat("x", api.MaxHeld-8)); err != nil {
		t.Errorf("a splice that makes it as full as it may be: %v", err)
	}
}

func TestAheadErrors(t *testing.T) {
	r := made(t, "a"+four+"b")
	for _, c := range []struct {
		unit, at int
		want     api.Errno
	}{
		{0, 0, api.ErrArg},
		{4, 0, api.ErrArg},
		{-1, 0, api.ErrArg},
		{math.MaxInt, 2, api.ErrArg},
		{0, -1, api.ErrArg}, // told ahead of ErrRange
		{4, 99, api.ErrArg},
		{api.Bytes, 7, api.ErrRange},
		{api.Halves, 5, api.ErrRange},
		{api.Runes, 4, api.ErrRange},
		{api.Runes, -1, api.ErrRange},
		{api.Bytes, 2, api.ErrOrder},
		{api.Bytes, 4, api.ErrOrder},
		{api.Halves, 2, api.ErrOrder},
	} {
		got, err := r.Ahead(c.unit, c.at)
		wantError(t, "Ahead", err, c.want, -1)
		if got != (api.Counts{}) {
			t.Errorf("Ahead(%d, %d) = %v beside an error", c.unit, c.at, got)
		}
	}
}

// Many splices, some of them wrong, of a document that grows and shrinks.
func TestManySplices(t *testing.T) {
	d := rand.New(rand.NewSource(2))
	r, s := made(t, ""), ""
	for i := range 3000 {
		at, drop, put := d.Intn(len(s)+2), d.Intn(60), someText(d, 24)
		if d.Intn(3) == 0 {
			drop = 0
		}
		if d.Intn(40) == 0 { // else most of it would be short
			put = someText(d, 900)
		}
		if at <= len(s) && drop <= len(s)-at && !within(s, at) && !within(s, at+drop) && len(s)-drop+len(put) <= api.MaxHeld {
			s = s[:at] + put + s[at+drop:]
			if err := r.Splice(at, drop, put); err != nil {
				t.Fatalf("splice %d: %v", i, err)
			}
		} else if r.Splice(at, drop, put) == nil {
			t.Fatalf("splice %d, that is wrong, is done", i)
		}
		if r.Text() != s {
			t.Fatalf("splice %d: %q, not %q", i, r.Text(), s)
		}
		if i%600 == 0 {
			holds(t, r, s)
		}
	}
}

func someText(d *rand.Rand, most int) string {
	var b strings.Builder
	for range d.Intn(most) {
		b.WriteString([]string{"a", "\n", two, three, four}[d.Intn(5)])
	}
	return b.String()
}
