package shape_test

// What the tests of this package share: documents, what they must be, and operations of which it is known which text each part is over.

import (
	"math/rand"
	"strings"
	"testing"
	"unicode/utf16"

	"rosetta/api"
	"rosetta/plain"
	"rosetta/shape"
)

const (
	two   = "\u00E9"
	three = "\u20AC"
	four  = "\U0001F600"
)

var units = []int{api.Bytes, api.Halves, api.Runes}

// size is how many of a unit a text has, by the library's own means.
func size(s string, unit int) int {
	switch unit {
	case api.Bytes:
		return len(s)
	case api.Halves:
		return len(utf16.Encode([]rune(s)))
	}
	return len([]rune(s))
}

func made(t *testing.T, unit int, s string) *shape.Shape {
	t.Helper()
	f, err := shape.New(unit, s)
	if err != nil {
		t.Fatalf("New(%d, %q): %v", unit, s, err)
	}
	wantDoc(t, "new", f, unit, s)
	return f
}

// wantDoc fails unless f is a document of that text, in that unit.
func wantDoc(t *testing.T, what string, f *shape.Shape, unit int, s string) {
	t.Helper()
	if got := f.Text(); got != s {
		t.Errorf("%s, unit %d: %q, not %q", what, unit, got, s)
	}
	if got, want := f.Len(), size(s, unit); got != want {
		t.Errorf("%s, unit %d: Len %d, not %d", what, unit, got, want)
	}
	if got := f.Unit(); got != unit {
		t.Errorf("%s: unit %d, not %d", what, got, unit)
	}
}

// wantError fails unless err is that one, at that place (-1: none).
func wantError(t *testing.T, what string, err error, want api.Errno, at int) {
	t.Helper()
	if e, place := plain.Place(err); e != want || place != at {
		t.Errorf("%s: error %d at %d, not %d at %d", what, e, place, want, at)
	}
}

// wantRefused fails unless an operation has that error, and leaves the document as it was.
func wantRefused(t *testing.T, what string, f *shape.Shape, op api.Op, want api.Errno) {
	t.Helper()
	unit, s := f.Unit(), f.Text()
	wantError(t, what, f.Apply(op), want, -1)
	wantDoc(t, what, f, unit, s)
}

func anyText(d *rand.Rand, most int) string {
	var b strings.Builder
	for range d.Intn(most + 1) {
		b.WriteString([]string{"a", "\n", two, three, four}[d.Intn(5)])
	}
	return b.String()
}

// piece is what a part does, and to which text.
type piece struct {
	does int
	text string
}

const (
	keeps = iota
	drops
	puts
)

// anyPieces are those of an operation over a text, like ones side by side among them.
func anyPieces(d *rand.Rand, s string) []piece {
	var l []piece
	rest := []rune(s)
	for len(rest) > 0 || d.Intn(3) > 0 {
		n := min(len(rest), 1+d.Intn(4))
		does := d.Intn(3)
		if does == puts || n == 0 {
			l = append(l, piece{puts, []string{"x", two + "y", three, four, "\n"}[d.Intn(5)]})
			continue
		}
		l, rest = append(l, piece{does, string(rest[:n])}), rest[n:]
	}
	return l
}

// opOf is the operation that pieces are, in a unit.
func opOf(l []piece, unit int) api.Op {
	var op api.Op
	for _, p := range l {
		switch p.does {
		case keeps:
			op = append(op, api.Part{Keep: size(p.text, unit)})
		case drops:
			op = append(op, api.Part{Drop: size(p.text, unit)})
		default:
			op = append(op, api.Part{Put: p.text})
		}
	}
	return op
}

// comes is what pieces make.
func comes(l []piece) string {
	s := ""
	for _, p := range l {
		if p.does != drops {
			s += p.text
		}
	}
	return s
}
