package ops_test

// Promise 4.1: Check, Lens, Norm.

import (
	"math"
	"math/rand"
	"slices"
	"strings"
	"testing"

	"rosetta/api"
	"rosetta/ops"
	"rosetta/plain"
)

func TestCheck(t *testing.T) {
	for _, c := range []struct {
		short string
		n     int
		want  api.Errno
	}{
		{"", 0, api.OK},
		{"px", 0, api.OK},
		{"px py p\u00E9 p" + four + " p\uFFFD", 0, api.OK},
		{"k3", 3, api.OK},
		{"d3", 3, api.OK},
		{"k1 k1 d1 px d1 py k2", 6, api.OK},
		{"", 1, api.ErrRange},
		{"px", 1, api.ErrRange},
		{"k1", 0, api.ErrRange},
		{"d1", 0, api.ErrRange},
		{"k3", 2, api.ErrRange}, // keeps more than there is
		{"k3", 4, api.ErrRange}, // and less
		{"d3", 2, api.ErrRange},
		{"d3", 4, api.ErrRange},
		{"k2 d2", 3, api.ErrRange},
		{"k2 px d2", 5, api.ErrRange},
		{"pxyz", 3, api.ErrRange}, // what is put is nothing of the document
		// A document has no bytes below 0.
		{"", -1, api.ErrRange},
		{"px", -1, api.ErrRange},
		{"k1", -1, api.ErrRange},
		{"", math.MinInt, api.ErrRange},
		{"d1", math.MinInt, api.ErrRange},
		{"", math.MaxInt, api.ErrRange},
	} {
		wantError(t, "Check("+c.short+")", ops.Check(op(c.short), c.n), c.want)
	}
}

func TestCheckParts(t *testing.T) {
	for _, p := range []api.Part{
		{},
		{Keep: 1, Drop: 1}, {Keep: 1, Put: "x"}, {Drop: 1, Put: "x"}, {Keep: 1, Drop: 1, Put: "x"},
		{Keep: -1}, {Drop: -1}, {Keep: math.MinInt}, {Drop: math.MinInt},
		{Keep: -1, Drop: 1}, {Keep: 1, Drop: -1}, {Keep: 2, Drop: -1}, {Keep: -1, Drop: -1},
		{Keep: -1, Put: "x"}, {Drop: -1, Put: "x"}, {Keep: -1, Drop: -1, Put: "x"},
		{Keep: math.MinInt, Drop: math.MinInt}, {Keep: -1, Drop: 1, Put: "x"},
	} {
		for _, n := range []int{0, 1, 2, -1, math.MinInt} {
			wantError(t, "a part alone", ops.Check(api.Op{p}, n), api.ErrArg)
			wantError(t, "behind others", ops.Check(append(op("k1 px"), p), n), api.ErrArg)
			wantError(t, "ahead of others", ops.Check(append(api.Op{p}, op("k1 px")...), n), api.ErrArg)
		}
	}
}

func TestCheckPuts(t *testing.T) {
	for _, bad := range []string{
		"\xFF", "\x80", "\xC3", "\xC0\x80", "\xE2\x82", "\xED\xA0\x80", "\xF4\x90\x80\x80", "\xF0\x9F\x98", "\xE0\x80\x80",
		"ok\xFF", "\xFFok", "\u20AC\xC3",
	} {
		wantError(t, bad, ops.Check(api.Op{{Put: bad}}, 0), api.ErrForm)
		wantError(t, bad, ops.Check(api.Op{{Keep: 1}, {Put: bad}}, 1), api.ErrForm)
	}
	// Two parts that are one rune together are none each.
	wantError(t, "halves of a rune", ops.Check(api.Op{{Put: "\xC3"}, {Put: "\xA9"}}, 0), api.ErrForm)
}

// The errors of parts are told part by part, and ahead of all that is beyond what there is.
func TestCheckOrder(t *testing.T) {
	bad, none, great := api.Part{Put: "\xFF"}, api.Part{}, api.Part{Keep: 99}
	for _, c := range []struct {
		op   api.Op
		want api.Errno
	}{
		{api.Op{{Keep: 1, Put: "\xFF"}}, api.ErrArg},
		{api.Op{{Drop: -1, Put: "\xFF"}}, api.ErrArg},
		{api.Op{bad, none}, api.ErrForm},
		{api.Op{none, bad}, api.ErrArg},
		{api.Op{great, bad}, api.ErrForm},
		{api.Op{great, none}, api.ErrArg},
		{api.Op{great, bad, none}, api.ErrForm},
		{api.Op{bad}, api.ErrForm}, // and nothing of n is kept
		{api.Op{great, {Put: "x"}}, api.ErrRange},
	} {
		wantError(t, "the first error", ops.Check(c.op, 3), c.want)
	}
}

// Sums of great numbers wrap round: what they come to is not what is there.
func TestCheckGreat(t *testing.T) {
	most := api.Part{Keep: math.MaxInt}
	all := api.Part{Drop: math.MaxInt}
	wantError(t, "all", ops.Check(api.Op{most}, math.MaxInt), api.OK)
	wantError(t, "all", ops.Check(api.Op{all}, math.MaxInt), api.OK)
	wantError(t, "2^40", ops.Check(op("k549755813888 px d549755813888"), 1<<40), api.OK)
	wantError(t, "less than 2^40", ops.Check(op("k549755813888 d549755813888"), 1<<40-1), api.ErrRange)
	for _, l := range []api.Op{{most, most}, {most, all}, {all, most, {Keep: 2}}, {most, most, {Drop: 5}}, {{Keep: 3}, most, most}} {
		for _, n := range []int{0, 1, 3, -2, math.MaxInt, math.MinInt} {
			wantError(t, "more than there can be", ops.Check(l, n), api.ErrRange)
		}
		was, _ := ops.Lens(l)
		wantError(t, "what a sum wraps round to", ops.Check(l, was), api.ErrRange)
	}
}

func TestLens(t *testing.T) {
	for _, c := range []struct {
		short   string
		was, is int
	}{
		{"", 0, 0},
		{"k3", 3, 3},
		{"d3", 3, 0},
		{"pxy", 0, 2},
		{"p\u00E9 p\u20AC p" + four, 0, 9},
		{"k1 d20 pabc k300 px d4000", 4321, 305},
		{"k549755813888 px d549755813888", 1 << 40, 1<<39 + 1},
	} {
		if was, is := ops.Lens(op(c.short)); was != c.was || is != c.is {
			t.Errorf("Lens(%s) = %d, %d, not %d, %d", c.short, was, is, c.was, c.is)
		}
	}
}

func TestNorm(t *testing.T) {
	for _, c := range [][2]string{
		{"", ""},
		{"k1", "k1"},
		{"d1", "d1"},
		{"px", "px"},
		{"k1 k2 k3", "k6"},
		{"d1 d2 d3", "d6"},
		{"px pyz p\u00E9", "pxyz\u00E9"},
		{"d1 px", "px d1"},
		{"px d1", "px d1"},
		{"d1 px d1", "px d2"},
		{"px d1 py", "pxy d1"},
		{"d1 px d2 py d3 pz", "pxyz d6"},
		{"k1 d1 k1", "k1 d1 k1"},
		{"k1 px k1", "k1 px k1"},
		{"k1 d1 px k1 d1 px", "k1 px d1 k1 px d1"},
		{"px k1 k1 py pz k1 d1 d1", "px k2 pyz k1 d2"},
		{"d1 k1 px k1 d1", "d1 k1 px k1 d1"},
	} {
		wantOp(t, "Norm("+c[0]+")", ops.Norm(op(c[0])), nil, op(c[1]))
	}
}

func TestNormOfMany(t *testing.T) {
	d := rand.New(rand.NewSource(5))
	for range 3000 {
		s := anyText(d)
		a := anyOp(d, s, false)
		got := ops.Norm(a)
		wantOp(t, "Norm", got, nil, least(play(a, had(len(s))), len(s)))
		wantOp(t, "Norm of Norm", ops.Norm(got), nil, got)
		wantError(t, "Check of Norm", ops.Check(got, len(s)), api.OK)
	}
	wantOp(t, "Norm", ops.Norm(slices.Repeat(op("px d1"), 1<<16)), nil, api.Op{{Put: strings.Repeat("x", 1<<16)}, {Drop: 1 << 16}})
}

// Of operations that are none nothing is promised, but that it ends (P1).
func TestNormEnds(t *testing.T) {
	for _, l := range []api.Op{
		{{}}, {{Keep: -1}, {Drop: -1}, {Keep: -1}}, {{Keep: 1, Drop: 1, Put: "\xFF"}},
		{{Keep: math.MaxInt}, {Keep: math.MaxInt}, {Keep: 2}}, {{Drop: math.MaxInt}, {Drop: 1}, {Keep: math.MinInt}, {}},
	} {
		ops.Norm(l)
		ops.Lens(l)
	}
}

// What is handed in stays as it is, and what comes out is of its own (P4).
func TestFormsAreTheirOwn(t *testing.T) {
	d := rand.New(rand.NewSource(6))
	for range 300 {
		s := anyText(d)
		a, same := guarded(t, anyOp(d, s, false))
		one, two := ops.Norm(a), ops.Norm(a)
		was := slices.Clone(two)
		spoil(one)
		if !plain.Same(two, was) {
			t.Errorf("two answers share memory")
		}
		ops.Check(a, len(s))
		ops.Lens(a)
		same()
	}
}
