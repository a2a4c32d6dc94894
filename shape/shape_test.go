package shape_test

// Promise 6.1: New, Unit, Len, Text, Apply.

import (
	"math"
	"math/rand"
	"slices"
	"strings"
	"testing"

	"rosetta/api"
	"rosetta/bridge"
	"rosetta/ops"
	"rosetta/rope"
	"rosetta/shape"
)

func TestNew(t *testing.T) {
	for _, unit := range units {
		for _, s := range []string{"", "a", "\n", two, three, four, "\x00", "\uFFFD", "\uFFFF", "\U00010000", "\U0010FFFF", "a" + two + three + four + "\nb"} {
			made(t, unit, s)
		}
	}
	// Example 1 of the document.
	for i, want := range []int{6, 4, 3} {
		if got := made(t, units[i], "a"+four+"\n").Len(); got != want {
			t.Errorf("unit %d: %d", units[i], got)
		}
	}
}

func TestNewErrors(t *testing.T) {
	full := strings.Repeat("a", api.MaxHeld)
	for _, c := range []struct {
		what string
		unit int
		s    string
		want api.Errno
		at   int
	}{
		{"no unit", 0, "a", api.ErrArg, -1},
		{"no unit, behind the last one", 4, "a", api.ErrArg, -1},
		{"no unit, below 0", -1, "", api.ErrArg, -1},
		{"no unit, far off", math.MaxInt, "a", api.ErrArg, -1},
		{"no unit, far below", math.MinInt, "a", api.ErrArg, -1},
		{"no unit ahead of no text", 0, "a\xFF", api.ErrArg, -1},
		{"no unit ahead of too much", 4, full + "a", api.ErrArg, -1},
		{"no text", api.Bytes, "\xFF", api.ErrForm, 0},
		{"no text further on", api.Halves, "a" + four + "\x80b\xFF", api.ErrForm, 5},
		{"no text at its end", api.Runes, "ab" + four[:3], api.ErrForm, 2},
		{"half of two as bytes", api.Halves, "a\xED\xA0\xBD", api.ErrForm, 1},
		{"no text ahead of too much", api.Runes, full + "a\xFF", api.ErrForm, api.MaxHeld + 1},
		{"no text ahead of too much, early", api.Bytes, "\xC0" + full, api.ErrForm, 0},
		{"too much", api.Bytes, full + "a", api.ErrFull, -1},
		{"too much, in halves", api.Halves, full + "a", api.ErrFull, -1},
		{"too much, in runes", api.Runes, full + "a", api.ErrFull, -1},
	} {
		f, err := shape.New(c.unit, c.s)
		wantError(t, c.what, err, c.want, c.at)
		if f != nil {
			t.Errorf("%s: a document beside an error", c.what)
		}
	}
}

// How much is too much is asked in bytes, in each unit.
func TestMaxHeld(t *testing.T) {
	for _, unit := range units {
		for _, one := range []string{"a", two, four} {
			full := strings.Repeat(one, api.MaxHeld/len(one))
			made(t, unit, full)
			f, err := shape.New(unit, full+"b")
			wantError(t, "one byte more", err, api.ErrFull, -1)
			if f != nil {
				t.Errorf("a document beside an error")
			}
		}
	}
}

func TestExamples(t *testing.T) {
	// Example 2 of the document.
	for _, unit := range units {
		f := made(t, unit, "abc")
		wantError(t, "abc", f.Apply(api.Op{{Keep: 1}, {Drop: 1}, {Put: "xy"}, {Keep: 1}}), api.OK, -1)
		wantDoc(t, "abc", f, unit, "axyc")
	}
	// Example 6: the same drop in each unit.
	for i, n := range []int{4, 2, 1} {
		f := made(t, units[i], "a"+four+"b")
		wantError(t, "smiling", f.Apply(api.Op{{Keep: 1}, {Drop: n}, {Keep: 1}}), api.OK, -1)
		wantDoc(t, "smiling", f, units[i], "ab")
	}
}

// What is not in least form is done as it stands.
func TestPartByPart(t *testing.T) {
	s := "a" + two + three + four
	for _, c := range []struct {
		l    []piece
		want string
	}{
		{[]piece{{keeps, "a"}, {keeps, two}, {keeps, three + four}}, s},
		{[]piece{{drops, "a"}, {drops, two}, {drops, three + four}}, ""},
		{[]piece{{puts, "x"}, {puts, two}, {keeps, s}, {puts, four}, {puts, "\n"}}, "x" + two + s + four + "\n"},
		{[]piece{{drops, "a"}, {puts, four}, {drops, two}, {puts, "y"}, {keeps, three + four}}, four + "y" + three + four},
		{[]piece{{keeps, "a" + two + three}, {drops, four}, {puts, four}}, s},
	} {
		for _, unit := range units {
			f := made(t, unit, s)
			op := opOf(c.l, unit)
			wantError(t, "parts", f.Apply(op), api.OK, -1)
			wantDoc(t, "parts", f, unit, c.want)
		}
	}
}

func TestEmpty(t *testing.T) {
	for _, unit := range units {
		f := made(t, unit, "")
		wantError(t, "nothing", f.Apply(nil), api.OK, -1)
		wantError(t, "nothing", f.Apply(api.Op{}), api.OK, -1)
		wantDoc(t, "nothing", f, unit, "")
		wantRefused(t, "beyond", f, api.Op{{Keep: 1}}, api.ErrRange)
		wantRefused(t, "beyond", f, api.Op{{Drop: 1}}, api.ErrRange)
		wantError(t, "puts", f.Apply(api.Op{{Put: four}, {Put: "x"}}), api.OK, -1)
		wantDoc(t, "puts", f, unit, four+"x")
		wantError(t, "drops", f.Apply(api.Op{{Drop: size(four+"x", unit)}}), api.OK, -1)
		wantDoc(t, "drops", f, unit, "")
	}
}

// One operation behind the other, the same one in each unit; wrong ones between them change nothing.
func TestOneBehindTheOther(t *testing.T) {
	d := rand.New(rand.NewSource(6))
	for range 200 {
		s := anyText(d, 30)
		var all []*shape.Shape
		for _, unit := range units {
			all = append(all, made(t, unit, s))
		}
		for range 12 {
			l := anyPieces(d, s)
			was := s
			s = comes(l)
			for i, unit := range units {
				spoilt := append(opOf(l, unit), api.Part{Keep: 1})
				wantRefused(t, "spoilt", all[i], spoilt, api.ErrRange)
				wantError(t, "right", all[i].Apply(opOf(l, unit)), api.OK, -1)
				wantDoc(t, "right", all[i], unit, s)
			}
			if got, err := ops.Apply(opOf(l, api.Bytes), was); err != nil || got != s {
				t.Fatalf("in bytes: %q, %v, not %q", got, err, s)
			}
		}
	}
}

// Operations that may end anywhere do what they do, or have the error that they have, when they are turned into bytes.
func TestLikeBytes(t *testing.T) {
	d := rand.New(rand.NewSource(16))
	within := 0
	for range 3000 {
		s := anyText(d, 12)
		r, err := rope.New(s)
		if err != nil {
			t.Fatal(err)
		}
		for _, unit := range units {
			f := made(t, unit, s)
			op := anyOp(d, f.Len())
			inBytes, err := bridge.To(r, unit, op)
			if err != nil {
				within++
				wantRefused(t, "cut", f, op, api.Tell(err))
				continue
			}
			want, err := ops.Apply(inBytes, s)
			if err != nil {
				t.Fatal(err)
			}
			wantError(t, "whole", f.Apply(op), api.OK, -1)
			wantDoc(t, "whole", f, unit, want)
		}
	}
	if within < 1000 || within > 8000 {
		t.Errorf("%d of 9000 operations had an error", within)
	}
}

// anyOp is an operation over so many, that asks for no runes; at times over one more.
func anyOp(d *rand.Rand, n int) api.Op {
	var op api.Op
	if d.Intn(20) == 0 {
		n++
	}
	for n > 0 {
		k := 1 + d.Intn(n)
		switch d.Intn(3) {
		case 0:
			op, n = append(op, api.Part{Keep: k}), n-k
		case 1:
			op, n = append(op, api.Part{Drop: k}), n-k
		default:
			op = append(op, api.Part{Put: []string{"x", two, four}[d.Intn(3)]})
		}
	}
	return op
}

// At each place of a text, where a rune may begin or not: a part that ends there, and what is put there.
func TestWithinARune(t *testing.T) {
	s := "a" + four + three + two + four + four + "b"
	for _, unit := range units {
		begins := map[int]string{}
		for at := range s {
			begins[size(s[:at], unit)] = s[:at]
		}
		all := size(s, unit)
		for at := 1; at < all; at++ {
			for _, c := range []struct {
				op   api.Op
				want func(ahead, behind string) string
			}{
				{api.Op{{Keep: at}, {Keep: all - at}}, func(ahead, behind string) string { return s }},
				{api.Op{{Keep: at}, {Put: "x"}, {Keep: all - at}}, func(ahead, behind string) string { return ahead + "x" + behind }},
				{api.Op{{Keep: at}, {Drop: all - at}}, func(ahead, behind string) string { return ahead }},
				{api.Op{{Drop: at}, {Keep: all - at}}, func(ahead, behind string) string { return behind }},
				{api.Op{{Drop: at}, {Drop: all - at}}, func(ahead, behind string) string { return "" }},
				{api.Op{{Drop: at}, {Put: four}, {Drop: all - at}}, func(ahead, behind string) string { return four }},
			} {
				f := made(t, unit, s)
				ahead, ok := begins[at]
				if !ok {
					wantRefused(t, "within", f, c.op, api.ErrOrder)
					continue
				}
				wantError(t, "between", f.Apply(c.op), api.OK, -1)
				wantDoc(t, "between", f, unit, c.want(ahead, s[len(ahead):]))
			}
		}
	}
}

// Between two halves nothing begins or ends, and in runes nothing is within one.
func TestBetweenTwoHalves(t *testing.T) {
	f := made(t, api.Halves, four+four)
	// The second half of one and the first one of the next would be dropped: what is left would be a rune again.
	wantRefused(t, "from one to the next", f, api.Op{{Keep: 1}, {Drop: 2}, {Keep: 1}}, api.ErrOrder)
	wantRefused(t, "a Put between", f, api.Op{{Keep: 2}, {Keep: 1}, {Put: "x"}, {Keep: 1}}, api.ErrOrder)
	wantRefused(t, "the last one", f, api.Op{{Keep: 3}, {Drop: 1}}, api.ErrOrder)
	wantRefused(t, "the first one", f, api.Op{{Drop: 1}, {Keep: 3}}, api.ErrOrder)
	f = made(t, api.Bytes, two+two)
	wantRefused(t, "from one to the next", f, api.Op{{Keep: 1}, {Drop: 2}, {Keep: 1}}, api.ErrOrder)
	f = made(t, api.Runes, four+four)
	wantError(t, "in runes", f.Apply(api.Op{{Keep: 1}, {Drop: 1}}), api.OK, -1)
	wantDoc(t, "in runes", f, api.Runes, four)
}

// What is wrong with an operation by itself is told ahead of how much it is over, and that ahead of all else.
func TestCheckErrors(t *testing.T) {
	s := "a" + two + three + four
	for _, unit := range units {
		f := made(t, unit, s)
		n := f.Len()
		for _, c := range []struct {
			what string
			op   api.Op
			want api.Errno
		}{
			{"a part of nothing", api.Op{{Keep: n}, {}}, api.ErrArg},
			{"two in one", api.Op{{Keep: 1, Drop: 1}, {Keep: n - 2}}, api.ErrArg},
			{"two in one", api.Op{{Keep: n, Put: "x"}}, api.ErrArg},
			{"below 0", api.Op{{Keep: n + 1}, {Keep: -1}}, api.ErrArg},
			{"far below 0", api.Op{{Drop: math.MinInt}, {Keep: n}}, api.ErrArg},
			{"below 0, and a Put", api.Op{{Keep: n}, {Drop: -1, Put: "x"}}, api.ErrArg},
			{"of one part, first what it is", api.Op{{Keep: 1, Put: "\xFF"}}, api.ErrArg},
			{"no part ahead of no text", api.Op{{Keep: n}, {}, {Put: "\xFF"}}, api.ErrArg},
			{"no text ahead of no part", api.Op{{Keep: n}, {Put: "\xFF"}, {}}, api.ErrForm},
			{"no text", api.Op{{Keep: n}, {Put: "a\xC3"}}, api.ErrForm},
			{"no text ahead of how much", api.Op{{Keep: 99}, {Put: "\xFF"}}, api.ErrForm},
			{"no text ahead of where", api.Op{{Keep: 2}, {Put: "\xFF"}, {Keep: n - 2}}, api.ErrForm},
			{"nothing", nil, api.ErrRange},
			{"too little", api.Op{{Keep: n - 1}}, api.ErrRange},
			{"too little, and a Put", api.Op{{Keep: n - 1}, {Put: "x"}}, api.ErrRange},
			{"too much", api.Op{{Keep: n + 1}}, api.ErrRange},
			{"too much, in two", api.Op{{Drop: n}, {Drop: 1}}, api.ErrRange},
			{"far too much", api.Op{{Keep: math.MaxInt}, {Keep: math.MaxInt}, {Drop: n + 2}}, api.ErrRange},
			{"how much ahead of room", api.Op{{Keep: n - 1}, {Put: strings.Repeat("x", api.MaxHeld)}}, api.ErrRange},
		} {
			wantRefused(t, c.what, f, c.op, c.want)
		}
	}
	f := made(t, api.Bytes, s)
	wantRefused(t, "how much ahead of where", f, api.Op{{Keep: 2}, {Keep: 99}}, api.ErrRange)
	wantRefused(t, "where ahead of room", f, api.Op{{Put: strings.Repeat("x", api.MaxHeld+1)}, {Keep: 2}, {Keep: 8}}, api.ErrOrder)
	f = made(t, api.Halves, s)
	wantRefused(t, "how much ahead of where", f, api.Op{{Keep: 4}, {Drop: 2}}, api.ErrRange)
	wantRefused(t, "where ahead of room", f, api.Op{{Put: strings.Repeat("x", api.MaxHeld+1)}, {Keep: 4}, {Drop: 1}}, api.ErrOrder)
}

// What comes may have MaxHeld bytes, not one more, though it is fewer halves and runes; what is dropped makes room.
func TestFull(t *testing.T) {
	for _, unit := range units {
		for _, one := range []string{"a", two, four} {
			half := strings.Repeat(one, api.MaxHeld/2/len(one))
			n, k := size(half, unit), size(one, unit)
			f := made(t, unit, half)
			wantRefused(t, "one byte more", f, api.Op{{Put: half}, {Keep: n}, {Put: "x"}}, api.ErrFull)
			wantRefused(t, "one byte more", f, api.Op{{Keep: n}, {Put: half + "x"}}, api.ErrFull)
			wantRefused(t, "one byte more", f, api.Op{{Keep: k}, {Drop: k}, {Put: half + one + "x"}, {Keep: n - 2*k}}, api.ErrFull)
			wantError(t, "just so much", f.Apply(api.Op{{Put: half[:len(one)]}, {Keep: n}, {Put: half[len(one):]}}), api.OK, -1)
			wantDoc(t, "just so much", f, unit, half+half)
			wantRefused(t, "no room", f, api.Op{{Keep: 2 * n}, {Put: "x"}}, api.ErrFull)
			wantRefused(t, "more than was dropped", f, api.Op{{Drop: k}, {Put: one + "x"}, {Keep: 2*n - k}}, api.ErrFull)
			as := one + strings.Repeat("x", len(one))
			wantError(t, "as much as is dropped", f.Apply(api.Op{{Put: as}, {Keep: 2*n - 2*k}, {Drop: 2 * k}}), api.OK, -1)
			wantDoc(t, "as much as is dropped", f, unit, as+half+half[:len(half)-2*len(one)])
		}
	}
}

// What is put may be more by itself than there is room for, whatever it is put into.
func TestPutTooMuch(t *testing.T) {
	for _, unit := range units {
		f := made(t, unit, "")
		full := strings.Repeat(three, api.MaxHeld/3) + "ab"
		wantRefused(t, "one byte more", f, api.Op{{Put: full + "c"}}, api.ErrFull)
		wantRefused(t, "in two", f, api.Op{{Put: full}, {Put: "c"}}, api.ErrFull)
		wantError(t, "just so much", f.Apply(api.Op{{Put: full}}), api.OK, -1)
		wantDoc(t, "just so much", f, unit, full)
		wantRefused(t, "instead", f, api.Op{{Put: full + "c"}, {Drop: f.Len()}}, api.ErrFull)
		wantError(t, "instead", f.Apply(api.Op{{Put: full}, {Drop: f.Len()}}), api.OK, -1)
		wantDoc(t, "instead", f, unit, full)
	}
}

// What is handed in stays as it is, and two documents have nothing to do with one another (P4).
func TestTheirOwn(t *testing.T) {
	for _, unit := range units {
		f, g := made(t, unit, "abc"), made(t, unit, "abc")
		all := api.Op{{Keep: 1}, {Put: "x"}, {Drop: 2}, {Keep: 77}, {}}
		was := slices.Clone(all)
		op := all[:3]
		wantError(t, "the first", f.Apply(op), api.OK, -1)
		if !slices.Equal(all, was) {
			t.Errorf("%v became %v", was, all)
		}
		for i := range op {
			op[i] = api.Part{Put: "zzz"}
		}
		wantDoc(t, "the first", f, unit, "ax")
		wantDoc(t, "the second", g, unit, "abc")
		wantRefused(t, "an error, too", f, all, api.ErrArg)
		if all[3] != was[3] || all[4] != was[4] {
			t.Errorf("behind its length: %v", all)
		}
	}
}

// No document is asked like one of no unit (P1).
func TestNone(t *testing.T) {
	for _, f := range []*shape.Shape{nil, {}} {
		if f.Unit() != 0 || f.Len() != 0 || f.Text() != "" {
			t.Errorf("%d, %d, %q", f.Unit(), f.Len(), f.Text())
		}
		wantError(t, "a part of nothing", f.Apply(api.Op{{}}), api.ErrArg, -1)
		wantError(t, "too much", f.Apply(api.Op{{Keep: 1}}), api.ErrRange, -1)
		wantError(t, "puts", f.Apply(api.Op{{Put: "x"}}), api.ErrNone, -1)
		if f.Len() != 0 || f.Text() != "" {
			t.Errorf("%d, %q", f.Len(), f.Text())
		}
	}
}
