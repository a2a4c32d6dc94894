package ops_test

// Promise 4.2: Apply, Invert.

import (
	"math"
	"math/rand"
	"slices"
	"testing"

	"rosetta/api"
	"rosetta/ops"
	"rosetta/plain"
)

func TestApplyAndInvert(t *testing.T) {
	for _, c := range []struct{ short, text, want, back string }{
		{"", "", "", ""},
		{"px", "", "x", "d1"},
		{"px py", "", "xy", "d2"},
		{"k3", "abc", "abc", "k3"},
		{"k1 k2", "abc", "abc", "k3"},
		{"d3", "abc", "", "pabc"},
		{"d1 d2", "abc", "", "pabc"},
		{"k1 d1 pxy k1", "abc", "axyc", "k1 pb d2 k1"},
		{"k1 pxy d1 k1", "abc", "axyc", "k1 pb d2 k1"},
		{"px k3 py", "abc", "xabcy", "d1 k3 d1"},
		{"d1 px d1 py d1", "abc", "xy", "pabc d2"},
		{"k1 d1 k1", "abc", "ac", "k1 pb k1"},
		{"k1 d4 p\u20AC k2", "a" + four + "\u00E9", "a\u20AC\u00E9", "k1 p" + four + " d3 k2"},
		{"d2 k3", "\u00E9\u20AC", "\u20AC", "p\u00E9 k3"},
	} {
		got, err := ops.Apply(op(c.short), c.text)
		if err != nil || got != c.want {
			t.Errorf("Apply(%s) of %q = %q, %v, not %q", c.short, c.text, got, err, c.want)
		}
		back, err := ops.Invert(op(c.short), c.text)
		wantOp(t, "Invert("+c.short+")", back, err, op(c.back))
	}
}

// bytesOf is what items are over a text.
func bytesOf(l []item, s string) string {
	var b []byte
	for _, x := range l {
		if x.from < 0 {
			b = append(b, x.put)
		} else {
			b = append(b, s[x.from])
		}
	}
	return string(b)
}

// back is what makes of what comes the text again: from the items that came.
func back(l []item, s string) api.Op {
	var op api.Op
	at := 0
	for _, x := range l {
		if x.from < 0 {
			op = append(op, api.Part{Drop: 1})
			continue
		}
		op = append(op, putOf(s[at:x.from])...)
		op, at = append(op, api.Part{Keep: 1}), x.from+1
	}
	return append(op, putOf(s[at:])...)
}

func putOf(s string) api.Op {
	if s == "" {
		return nil
	}
	return api.Op{{Put: s}}
}

func TestApplyAndInvertOfMany(t *testing.T) {
	d := rand.New(rand.NewSource(7))
	for range 3000 {
		s := anyText(d)
		a, same := guarded(t, anyOp(d, s, true))
		got, err := ops.Apply(a, s)
		items := play(a, had(len(s)))
		if want := bytesOf(items, s); err != nil || got != want {
			t.Fatalf("Apply(%v) of %q = %q, %v, not %q", a, s, got, err, want)
		}
		inverse, err := ops.Invert(a, s)
		wantOp(t, "Invert", inverse, err, least(play(back(items, s), had(len(got))), len(got)))
		if again, err := ops.Apply(inverse, got); err != nil || again != s {
			t.Fatalf("there and back of %q by %v = %q, %v", s, a, again, err)
		}
		twice, err := ops.Invert(inverse, got)
		wantOp(t, "Invert of Invert", twice, err, ops.Norm(a))
		was := slices.Clone(twice)
		spoil(inverse)
		if !plain.Same(twice, was) {
			t.Errorf("two answers share memory")
		}
		same()
	}
}

// wantBoth fails unless both answer that error, and nothing beside it.
func wantBoth(t *testing.T, a api.Op, s string, want api.Errno) {
	t.Helper()
	got, err := ops.Apply(a, s)
	wantError(t, "Apply", err, want)
	back, err := ops.Invert(a, s)
	wantError(t, "Invert", err, want)
	if got != "" || back != nil {
		t.Errorf("%q, %v beside an error", got, back)
	}
}

func TestApplyErrors(t *testing.T) {
	s := "a\u00E9\u20AC" + four // runes begin at 0, 1, 3, 6; it has 10 bytes
	for _, a := range []api.Op{{{}}, {{Keep: 9, Drop: 1}}, {{Keep: -1}, {Keep: 11}}, {{Keep: 10, Put: "\xFF"}}, {{Keep: 2}, {}}} {
		wantBoth(t, a, s, api.ErrArg)
	}
	for _, a := range []api.Op{{{Keep: 10}, {Put: "\xFF"}}, {{Put: "\xC3"}, {Keep: 2}}, {{Keep: 99}, {Put: "\x80"}}} {
		wantBoth(t, a, s, api.ErrForm)
	}
	for _, short := range []string{"", "px", "k9", "k11", "d9", "d11", "k1 d2", "k2 d9", "k2 d7", "k10 d1", "k5 d6", "d10 px d1"} {
		wantBoth(t, op(short), s, api.ErrRange)
	}
	wantBoth(t, api.Op{{Keep: math.MaxInt}, {Keep: math.MaxInt}, {Keep: 12}}, s, api.ErrRange)
	wantBoth(t, op("k4"), four[:4]+"a", api.ErrRange)
	for _, short := range []string{
		"k2 k8", "d2 d8", "k2 d8", "d2 k8", // parts that are whole runes together
		"k1 k1 k1 k7", "k4 k6", "k5 k5", "k7 d3", "k8 d2", "k9 k1", "k2 px k8", "k2 px d8", "k3 d2 px d1 k4",
	} {
		wantBoth(t, op(short), s, api.ErrOrder)
	}
	for _, short := range []string{"k1 k9", "k3 k7", "k6 k4", "k1 d2 k3 d4", "d1 k2 d3 k4", "d10", "k10"} {
		if _, err := ops.Apply(op(short), s); err != nil {
			t.Errorf("Apply(%s): %v", short, err)
		}
	}
}

// A text that is no UTF-8 does no harm (P1): nothing else is promised of it.
func TestApplyToBytes(t *testing.T) {
	for _, s := range []string{"\x80", "\xFF\xFF", "a\xC3", "\xE2\x82", "\x80\x80\x80"} {
		for _, short := range []string{"", "k1", "d1", "k1 k1", "k2", "d1 k1", "k1 px d2"} {
			ops.Apply(op(short), s)
			ops.Invert(op(short), s)
		}
	}
}
