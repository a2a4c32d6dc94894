package pos_test

// Promise 3.1: Convert, Spot, Place.

import (
	"math"
	"math/rand"
	"strings"
	"testing"

	"rosetta/api"
	"rosetta/plain"
	"rosetta/pos"
	"rosetta/rope"
)

const four = "\U0001F600"

var units = []int{api.Bytes, api.Halves, api.Runes}

func made(t *testing.T, s string) *rope.Rope {
	t.Helper()
	r, err := rope.New(s)
	if err != nil {
		t.Fatal(err)
	}
	return r
}

// size is how many of a unit a text has, reckoned rune by rune.
func size(s string, unit int) int {
	n := 0
	for _, r := range s {
		switch {
		case unit == api.Bytes:
			n += len(string(r))
		case unit == api.Halves && r > 0xFFFF:
			n += 2
		default:
			n++
		}
	}
	return n
}

// wantError fails unless err is that one, with no place, and what is beside it is zero.
func wantError[T comparable](t *testing.T, what string, got T, err error, want api.Errno) {
	t.Helper()
	if e, place := plain.Place(err); e != want || place != -1 {
		t.Errorf("%s: error %d at %d, not %d", what, e, place, want)
	}
	var zero T
	if got != zero {
		t.Errorf("%s: %v beside an error", what, got)
	}
}

func texts() []string {
	l := []string{
		"", "a", "\n", "\n\n", "a" + four + "\n", four, "ab\n" + four + "c\n\u20AC\u00E9", "\r\n" + four + "\n",
		strings.Repeat("a", 31) + "\n" + strings.Repeat(four, 20) + "\n",
		strings.Repeat("abc"+four+"\n", 40), strings.Repeat("\n", 70),
	}
	d := rand.New(rand.NewSource(4))
	for range 30 {
		var b strings.Builder
		for range d.Intn(150) {
			b.WriteString([]string{"a", "\n", "\u00E9", "\u20AC", four}[d.Intn(5)])
		}
		l = append(l, b.String())
	}
	return l
}

// Each place of each text by each unit, there and back.
func TestPlaces(t *testing.T) {
	for _, s := range texts() {
		r := made(t, s)
		for at := 0; at <= len(s); at++ {
			if at < len(s) && s[at]&0xC0 == 0x80 {
				continue
			}
			placeHolds(t, r, s[:at])
		}
	}
}

// placeHolds asks for the place behind a text with which the document begins.
func placeHolds(t *testing.T, r *rope.Rope, ahead string) {
	t.Helper()
	for _, unit := range units {
		at := size(ahead, unit)
		for _, to := range units {
			if got, err := pos.Convert(r, unit, to, at); err != nil || got != size(ahead, to) {
				t.Fatalf("Convert(%d, %d, %d) of %q = %d, %v", unit, to, at, r.Text(), got, err)
			}
		}
		want := api.Spot{
			Line:   strings.Count(ahead, "\n"),
			Column: size(ahead[strings.LastIndex(ahead, "\n")+1:], unit),
		}
		if got, err := pos.Spot(r, unit, at); err != nil || got != want {
			t.Fatalf("Spot(%d, %d) of %q = %v, %v, not %v", unit, at, r.Text(), got, err, want)
		}
		if got, err := pos.Place(r, unit, want); err != nil || got != at {
			t.Fatalf("Place(%d, %v) of %q = %d, %v, not %d", unit, want, r.Text(), got, err, at)
		}
	}
}

// What each line has, and nothing beyond.
func TestLines(t *testing.T) {
	for _, s := range texts() {
		r := made(t, s)
		lines := strings.Split(s, "\n")
		for _, unit := range units {
			begin := 0
			for i, line := range lines {
				lineHolds(t, r, unit, i, begin, line)
				begin += size(line, unit) + 1
			}
			for _, i := range []int{len(lines), len(lines) + 1, math.MaxInt, -1, math.MinInt} {
				for _, column := range []int{0, 1, -1} {
					got, err := pos.Place(r, unit, api.Spot{Line: i, Column: column})
					wantError(t, "Place of a line that is none", got, err, api.ErrRange)
				}
			}
		}
	}
}

func lineHolds(t *testing.T, r *rope.Rope, unit, i, begin int, line string) {
	t.Helper()
	good := map[int]bool{size(line, unit): true}
	for at := range line {
		good[size(line[:at], unit)] = true
	}
	for column := range size(line, unit) + 1 {
		got, err := pos.Place(r, unit, api.Spot{Line: i, Column: column})
		if !good[column] {
			wantError(t, "Place within a rune", got, err, api.ErrOrder)
		} else if err != nil || got != begin+column {
			t.Fatalf("Place(%d, %d:%d) of %q = %d, %v, not %d", unit, i, column, r.Text(), got, err, begin+column)
		}
	}
	for _, column := range []int{size(line, unit) + 1, size(line, unit) + 2, math.MaxInt, -1, math.MinInt} {
		got, err := pos.Place(r, unit, api.Spot{Line: i, Column: column})
		wantError(t, "Place behind a line's end", got, err, api.ErrRange)
	}
}

func TestEdges(t *testing.T) {
	r := made(t, "a"+four+"\nb\n")
	for _, c := range []struct {
		unit, at int
		want     api.Spot
	}{
		{api.Halves, 3, api.Spot{Column: 3}}, // ahead of a line feed
		{api.Halves, 4, api.Spot{Line: 1}},   // behind it
		{api.Bytes, 6, api.Spot{Line: 1}},
		{api.Runes, 2, api.Spot{Column: 2}},
		{api.Runes, 5, api.Spot{Line: 2}}, // behind the last line feed
		{api.Bytes, 8, api.Spot{Line: 2}},
	} {
		if got, err := pos.Spot(r, c.unit, c.at); err != nil || got != c.want {
			t.Errorf("Spot(%d, %d) = %v, %v, not %v", c.unit, c.at, got, err, c.want)
		}
		if got, err := pos.Place(r, c.unit, c.want); err != nil || got != c.at {
			t.Errorf("Place(%d, %v) = %d, %v, not %d", c.unit, c.want, got, err, c.at)
		}
	}
}

func TestErrors(t *testing.T) {
	r := made(t, "a"+four+"\nb")
	convert := func(from, to, at int, want api.Errno) {
		t.Helper()
		got, err := pos.Convert(r, from, to, at)
		wantError(t, "Convert", got, err, want)
	}
	for _, no := range []int{0, 4, -1, math.MaxInt, math.MinInt} {
		convert(api.Bytes, no, 0, api.ErrArg)
		convert(no, api.Bytes, 0, api.ErrArg)
		convert(no, no, 99, api.ErrArg)
		convert(api.Bytes, no, 99, api.ErrArg) // told ahead of ErrRange
		convert(api.Halves, no, 2, api.ErrArg) // and of ErrOrder
		convert(no, api.Bytes, 99, api.ErrArg)
		got, err := pos.Spot(r, no, 0)
		wantError(t, "Spot", got, err, api.ErrArg)
		got, err = pos.Spot(r, no, 99)
		wantError(t, "Spot", got, err, api.ErrArg)
		at, err := pos.Place(r, no, api.Spot{})
		wantError(t, "Place", at, err, api.ErrArg)
		at, err = pos.Place(r, no, api.Spot{Line: 9, Column: 9})
		wantError(t, "Place", at, err, api.ErrArg)
	}
	for _, unit := range units {
		for _, at := range []int{-1, size(r.Text(), unit) + 1, math.MaxInt, math.MinInt} {
			convert(unit, api.Runes, at, api.ErrRange)
			got, err := pos.Spot(r, unit, at)
			wantError(t, "Spot", got, err, api.ErrRange)
		}
	}
	for _, to := range units {
		convert(api.Bytes, to, 2, api.ErrOrder)
		convert(api.Bytes, to, 4, api.ErrOrder)
		convert(api.Halves, to, 2, api.ErrOrder)
	}
	got, err := pos.Spot(r, api.Halves, 2)
	wantError(t, "Spot", got, err, api.ErrOrder)
	got, err = pos.Spot(r, api.Bytes, 3)
	wantError(t, "Spot", got, err, api.ErrOrder)
}

// An empty document, and none, have one place.
func TestEmpty(t *testing.T) {
	for _, r := range []*rope.Rope{nil, {}} {
		placeHolds(t, r, "")
		for _, unit := range units {
			at, err := pos.Convert(r, unit, api.Bytes, 1)
			wantError(t, "Convert", at, err, api.ErrRange)
			at, err = pos.Place(r, unit, api.Spot{Column: 1})
			wantError(t, "Place", at, err, api.ErrRange)
		}
	}
}
