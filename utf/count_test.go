package utf_test

// Promise 1.2: Count, Plus, In, Walk. (Count's errors: wantBadBytes.)

import (
	"math"
	"slices"
	"testing"

	"rosetta/api"
	"rosetta/utf"
)

func TestCount(t *testing.T) {
	for _, c := range []struct {
		text string
		want api.Counts
	}{
		{"", api.Counts{}},
		{"a\xF0\x9F\x98\x80\n", api.Counts{Bytes: 6, Halves: 4, Runes: 3, Lines: 1}},
		{"\n", api.Counts{Bytes: 1, Halves: 1, Runes: 1, Lines: 1}},
		{"\n\n\r\n", api.Counts{Bytes: 4, Halves: 4, Runes: 4, Lines: 3}},
		// Others that end a line, and a rune with a line feed's number in its bits, are no line feeds.
		{"\r\v\f\xC2\x85\xE2\x80\xA8\xC4\x8A", api.Counts{Bytes: 10, Halves: 6, Runes: 6}},
		{"\xC3\xA9\xE2\x82\xAC", api.Counts{Bytes: 5, Halves: 2, Runes: 2}},
		{"\xEF\xBF\xBF\xF0\x90\x80\x80\xF4\x8F\xBF\xBF", api.Counts{Bytes: 11, Halves: 5, Runes: 3}},
		{"\xEF\xBF\xBD", api.Counts{Bytes: 3, Halves: 1, Runes: 1}},
	} {
		if got, err := utf.Count(c.text); err != nil || got != c.want {
			t.Errorf("Count(%q) = %v, %v, not %v", c.text, got, err, c.want)
		}
	}
}

func TestCountEachRune(t *testing.T) {
	for r := rune(0); r <= 0x10FFFF; r++ {
		if !isRune(r) {
			continue
		}
		want := api.Counts{Bytes: len(bytesOf(r)), Halves: len(halvesOf(r)), Runes: 1}
		if r == '\n' {
			want.Lines = 1
		}
		if got, err := utf.Count(bytesOf(r)); err != nil || got != want {
			t.Fatalf("Count of %x = %v, %v, not %v", r, got, err, want)
		}
	}
}

func TestPlus(t *testing.T) {
	a := api.Counts{Bytes: 1, Halves: 20, Runes: 300, Lines: 4000}
	b := api.Counts{Bytes: 5, Halves: 60, Runes: 700, Lines: -8000}
	want := api.Counts{Bytes: 6, Halves: 80, Runes: 1000, Lines: -4000}
	if got := utf.Plus(a, b); got != want {
		t.Errorf("Plus(%v, %v) = %v", a, b, got)
	}
	if got := utf.Plus(b, a); got != want {
		t.Errorf("Plus(%v, %v) = %v", b, a, got)
	}
	if got := utf.Plus(api.Counts{}, a); got != a {
		t.Errorf("Plus of nothing and %v = %v", a, got)
	}
}

func TestIn(t *testing.T) {
	c := api.Counts{Bytes: 10, Halves: 20, Runes: 30, Lines: 40}
	for unit, want := range map[int]int{
		api.Bytes: 10, api.Halves: 20, api.Runes: 30,
		0: 0, 4: 0, 5: 0, -1: 0, 257: 0, math.MaxInt: 0, math.MinInt: 0,
	} {
		if got := utf.In(c, unit); got != want {
			t.Errorf("In(%v, %d) = %d, not %d", c, unit, got, want)
		}
	}
}

// step is what Walk tells of a rune.
type step struct{ ahead, own api.Counts }

// steps are the first ones, at most so many, that walk tells.
func steps(walk func(yield func(ahead, own api.Counts) bool), most int) []step {
	var l []step
	for ahead, own := range walk {
		l = append(l, step{ahead, own})
		if len(l) == most {
			break
		}
	}
	return l
}

// mixed has runes of each size, and a line feed.
const mixed = "\xC3\xA9\n\xF0\x9F\x98\x80\xE2\x82\xACz"

func mixedSteps() []step {
	return []step{
		{api.Counts{}, api.Counts{Bytes: 2, Halves: 1, Runes: 1}},
		{api.Counts{Bytes: 2, Halves: 1, Runes: 1}, api.Counts{Bytes: 1, Halves: 1, Runes: 1, Lines: 1}},
		{api.Counts{Bytes: 3, Halves: 2, Runes: 2, Lines: 1}, api.Counts{Bytes: 4, Halves: 2, Runes: 1}},
		{api.Counts{Bytes: 7, Halves: 4, Runes: 3, Lines: 1}, api.Counts{Bytes: 3, Halves: 1, Runes: 1}},
		{api.Counts{Bytes: 10, Halves: 5, Runes: 4, Lines: 1}, api.Counts{Bytes: 1, Halves: 1, Runes: 1}},
	}
}

func TestWalk(t *testing.T) {
	want := mixedSteps()
	walk := utf.Walk(mixed)
	for range 2 { // a walk that was walked begins anew
		if got := steps(walk, 99); !slices.Equal(got, want) {
			t.Errorf("Walk: %v, not %v", got, want)
		}
		if got := steps(walk, 2); !slices.Equal(got, want[:2]) {
			t.Errorf("Walk, two steps: %v, not %v", got, want[:2])
		}
	}
	if got := steps(utf.Walk(""), 99); len(got) != 0 {
		t.Errorf("Walk of nothing: %v", got)
	}
}

func TestWalkWithinAWalk(t *testing.T) {
	want := mixedSteps()
	walk := utf.Walk(mixed)
	n := 0
	for ahead, own := range walk {
		if got := steps(walk, 99); !slices.Equal(got, want) {
			t.Errorf("within: %v, not %v", got, want)
		}
		if (step{ahead, own}) != want[n] {
			t.Errorf("step %d: %v, %v", n, ahead, own)
		}
		n++
	}
	if n != len(want) {
		t.Errorf("%d steps", n)
	}
}

func TestWalkAndCount(t *testing.T) {
	var all api.Counts
	for ahead, own := range utf.Walk(mixed) {
		if want, err := utf.Count(mixed[:ahead.Bytes]); err != nil || ahead != want {
			t.Errorf("ahead: %v, not %v", ahead, want)
		}
		if want, err := utf.Count(mixed[ahead.Bytes:][:own.Bytes]); err != nil || own != want {
			t.Errorf("own: %v, not %v", own, want)
		}
		all = utf.Plus(ahead, own)
	}
	if want, _ := utf.Count(mixed); all != want {
		t.Errorf("all: %v, not %v", all, want)
	}
}

func TestWalkToTheFirstBadByte(t *testing.T) {
	want := mixedSteps()
	for _, bad := range badBytes {
		if got := steps(utf.Walk(mixed+bad+"abc"), 99); !slices.Equal(got, want) {
			t.Errorf("with %q behind: %v, not %v", bad, got, want)
		}
		if got := steps(utf.Walk(mixed+bad), 99); !slices.Equal(got, want) {
			t.Errorf("with %q at the end: %v, not %v", bad, got, want)
		}
		if got := steps(utf.Walk(bad+mixed), 99); len(got) != 0 {
			t.Errorf("with %q ahead: %v", bad, got)
		}
	}
}

// TestWalkEnds: yield is not asked once more when it said no, and none at all does no harm (P1).
func TestWalkEnds(t *testing.T) {
	n := 0
	utf.Walk(mixed)(func(ahead, own api.Counts) bool {
		n++
		return n < 3
	})
	if n != 3 {
		t.Errorf("asked %d times", n)
	}
	utf.Walk(mixed)(nil)
}
