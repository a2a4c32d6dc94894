package bridge_test

// Promise 5.1: To, From.

import (
	"math"
	"math/rand"
	"slices"
	"strings"
	"testing"
	"unicode/utf16"

	"rosetta/api"
	"rosetta/bridge"
	"rosetta/ops"
	"rosetta/plain"
	"rosetta/rope"
)

const (
	two   = "\u00E9"
	three = "\u20AC"
	four  = "\U0001F600"
)

var units = []int{api.Bytes, api.Halves, api.Runes}

func made(t *testing.T, s string) *rope.Rope {
	t.Helper()
	r, err := rope.New(s)
	if err != nil {
		t.Fatal(err)
	}
	return r
}

// size is how many of a unit a text has, by the library's own means.
func size(s string, unit int) int {
	switch unit {
	case api.Bytes:
		return len(s)
	case api.Halves:
		return len(utf16.Encode([]rune(s)))
	}
	return len([]rune(s))
}

// wantError fails unless err is that one, with no place, and nothing is beside it.
func wantError(t *testing.T, what string, got api.Op, err error, want api.Errno) {
	t.Helper()
	if e, place := plain.Place(err); e != want || place != -1 {
		t.Errorf("%s: error %d at %d, not %d", what, e, place, want)
	}
	if got != nil {
		t.Errorf("%s: %v beside an error", what, got)
	}
}

func wantOp(t *testing.T, what string, got api.Op, err error, want api.Op) {
	t.Helper()
	if err != nil || !plain.Same(got, want) {
		t.Errorf("%s = %v, %v, not %v", what, got, err, want)
	}
}

func anyText(d *rand.Rand) string {
	var b strings.Builder
	for range d.Intn(40) {
		b.WriteString([]string{"a", "\n", two, three, four}[d.Intn(5)])
	}
	return b.String()
}

// piece is what a part does, and to which text: kept, dropped or put.
type piece struct {
	kind int
	text string
}

// anyPieces are those of an operation over a text, parts side by side among them.
func anyPieces(d *rand.Rand, s string) []piece {
	var l []piece
	rest := []rune(s)
	for len(rest) > 0 || d.Intn(3) > 0 {
		n := min(len(rest), 1+d.Intn(4))
		kind := d.Intn(3)
		if kind == 2 || n == 0 {
			l = append(l, piece{2, []string{"x", two + "y", four, "\n"}[d.Intn(4)]})
			continue
		}
		l, rest = append(l, piece{kind, string(rest[:n])}), rest[n:]
	}
	return l
}

// opOf is the operation that pieces are, in a unit.
func opOf(l []piece, unit int) api.Op {
	var op api.Op
	for _, p := range l {
		switch p.kind {
		case 0:
			op = append(op, api.Part{Keep: size(p.text, unit)})
		case 1:
			op = append(op, api.Part{Drop: size(p.text, unit)})
		default:
			op = append(op, api.Part{Put: p.text})
		}
	}
	return op
}

func TestToAndFrom(t *testing.T) {
	d := rand.New(rand.NewSource(13))
	for range 1500 {
		s := anyText(d)
		r := made(t, s)
		l := anyPieces(d, s)
		inBytes := opOf(l, api.Bytes)
		for _, unit := range units {
			inUnit := opOf(l, unit)
			got, err := bridge.To(r, unit, inUnit)
			wantOp(t, "To", got, err, inBytes)
			got, err = bridge.From(r, unit, inBytes)
			wantOp(t, "From", got, err, inUnit)
		}
		if r.Text() != s {
			t.Fatalf("the document became %q", r.Text())
		}
	}
}

func TestExamples(t *testing.T) {
	s := "a" + four + "b"
	r := made(t, s)
	// Example 6 of the document: in halves.
	got, err := bridge.To(r, api.Halves, api.Op{{Keep: 1}, {Drop: 2}, {Keep: 1}})
	wantOp(t, "To", got, err, api.Op{{Keep: 1}, {Drop: 4}, {Keep: 1}})
	if text, err := ops.Apply(got, s); err != nil || text != "ab" {
		t.Errorf("%q, %v", text, err)
	}
	got, err = bridge.From(r, api.Halves, got)
	wantOp(t, "From", got, err, api.Op{{Keep: 1}, {Drop: 2}, {Keep: 1}})
	got, err = bridge.To(r, api.Runes, api.Op{{Keep: 1}, {Drop: 1}, {Keep: 1}})
	wantOp(t, "To", got, err, api.Op{{Keep: 1}, {Drop: 4}, {Keep: 1}})
	// Part by part: like ones stay apart, in their order.
	l := api.Op{{Drop: 1}, {Put: "x"}, {Put: two}, {Drop: 1}, {Put: "y"}, {Keep: 1}}
	got, err = bridge.To(r, api.Runes, l)
	wantOp(t, "To", got, err, api.Op{{Drop: 1}, {Put: "x"}, {Put: two}, {Drop: 4}, {Put: "y"}, {Keep: 1}})
	got, err = bridge.From(r, api.Runes, got)
	wantOp(t, "From", got, err, l)
}

// An empty document, and none, are gone over by what puts alone.
func TestEmpty(t *testing.T) {
	for _, r := range []*rope.Rope{nil, {}, made(t, "")} {
		for _, unit := range units {
			for _, turn := range []func(r *rope.Rope, unit int, op api.Op) (api.Op, error){bridge.To, bridge.From} {
				got, err := turn(r, unit, nil)
				wantOp(t, "of nothing", got, err, nil)
				got, err = turn(r, unit, api.Op{{Put: "x"}, {Put: four}})
				wantOp(t, "of Puts", got, err, api.Op{{Put: "x"}, {Put: four}})
				got, err = turn(r, unit, api.Op{{Keep: 1}})
				wantError(t, "beyond", got, err, api.ErrRange)
				got, err = turn(r, 0, nil)
				wantError(t, "no unit", got, err, api.ErrArg)
			}
		}
	}
}

// What is wrong with an operation by itself is so in each unit.
func TestCheckErrors(t *testing.T) {
	r := made(t, "a"+two+three+four)
	for _, c := range []struct {
		op   api.Op
		want api.Errno
	}{
		{api.Op{{}}, api.ErrArg},
		{api.Op{{Keep: 1, Drop: 1}}, api.ErrArg},
		{api.Op{{Keep: -1}}, api.ErrArg},
		{api.Op{{Drop: math.MinInt}}, api.ErrArg},
		{api.Op{{Keep: 1, Put: "\xFF"}}, api.ErrArg},
		{api.Op{{Put: "\xFF"}}, api.ErrForm},
		{api.Op{{Put: "\xFF"}, {}}, api.ErrForm},
		{api.Op{{Keep: 99}, {Put: "\xC3"}}, api.ErrForm},
		{api.Op{{Keep: 2}, {Put: "\xC3"}}, api.ErrForm},
		{nil, api.ErrRange},
		{api.Op{{Put: "x"}}, api.ErrRange},
		{api.Op{{Keep: 1}}, api.ErrRange},
		{api.Op{{Keep: 99}}, api.ErrRange},
		{api.Op{{Keep: math.MaxInt}, {Keep: math.MaxInt}, {Drop: 12}}, api.ErrRange},
	} {
		for _, unit := range units {
			got, err := bridge.To(r, unit, c.op)
			wantError(t, "To", got, err, c.want)
			got, err = bridge.From(r, unit, c.op)
			wantError(t, "From", got, err, c.want)
		}
		for _, no := range []int{0, 4, -1, math.MaxInt, math.MinInt} {
			got, err := bridge.To(r, no, c.op)
			wantError(t, "To of no unit", got, err, api.ErrArg)
			got, err = bridge.From(r, no, c.op)
			wantError(t, "From of no unit", got, err, api.ErrArg)
		}
	}
}

// How much there is To asks in the unit, From in bytes.
func TestRanges(t *testing.T) {
	s := "a" + two + three + four
	r := made(t, s)
	for _, unit := range units {
		for n := range 2 * len(s) {
			got, err := bridge.To(r, unit, api.Op{{Keep: n + 1}})
			if n+1 == size(s, unit) {
				wantOp(t, "To", got, err, api.Op{{Keep: len(s)}})
			} else {
				wantError(t, "To", got, err, api.ErrRange)
			}
			got, err = bridge.From(r, unit, api.Op{{Drop: n + 1}})
			if n+1 == len(s) {
				wantOp(t, "From", got, err, api.Op{{Drop: size(s, unit)}})
			} else {
				wantError(t, "From", got, err, api.ErrRange)
			}
		}
	}
}

// Parts that end within a rune, at each place of a text.
func TestWithinARune(t *testing.T) {
	s := "a" + four + three + two + four + "b"
	r := made(t, s)
	for _, unit := range units {
		cut(t, s, unit, func(op api.Op) (api.Op, error) { return bridge.To(r, unit, op) })
		cut(t, s, api.Bytes, func(op api.Op) (api.Op, error) { return bridge.From(r, unit, op) })
	}
	// What is beyond is told first, wherever it stands.
	got, err := bridge.To(r, api.Halves, api.Op{{Keep: 2}, {Keep: 99}})
	wantError(t, "To", got, err, api.ErrRange)
	got, err = bridge.From(r, api.Runes, api.Op{{Keep: 2}, {Keep: 1}})
	wantError(t, "From", got, err, api.ErrRange)
}

// cut asks for two parts, that end at each place of a text, by the unit that they count in.
func cut(t *testing.T, s string, unit int, ask func(op api.Op) (api.Op, error)) {
	t.Helper()
	good := map[int]bool{}
	for at := range s {
		good[size(s[:at], unit)] = true
	}
	all := size(s, unit)
	for at := 1; at < all; at++ {
		for _, op := range []api.Op{
			{{Keep: at}, {Keep: all - at}},
			{{Drop: at}, {Put: "x"}, {Keep: all - at}},
			{{Drop: at}, {Drop: all - at}},
		} {
			got, err := ask(op)
			if !good[at] {
				wantError(t, "within a rune", got, err, api.ErrOrder)
			} else if err != nil || len(got) != len(op) {
				t.Errorf("%v: %v, %v", op, got, err)
			}
		}
	}
}

// What is handed in stays as it is, and what comes out is of its own (P4).
func TestTheirOwn(t *testing.T) {
	r := made(t, "a"+two+"b")
	all := api.Op{{Keep: 1}, {Put: "x"}, {Drop: 3}, {Keep: 77}}
	was := slices.Clone(all)
	for _, turn := range []func(r *rope.Rope, unit int, op api.Op) (api.Op, error){bridge.To, bridge.From} {
		one, err := turn(r, api.Bytes, all[:3])
		wantOp(t, "in bytes", one, err, was[:3])
		for i := range one {
			one[i] = api.Part{Keep: -9}
		}
		two, err := turn(r, api.Bytes, all[:3])
		wantOp(t, "once more", two, err, was[:3])
	}
	if !slices.Equal(all, was) {
		t.Errorf("%v became %v", was, all)
	}
}
