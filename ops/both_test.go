package ops_test

// Promises 4.3 (Compose, Transform) and 4.4 (who comes first is not seen).

import (
	"math"
	"math/rand"
	"slices"
	"testing"

	"rosetta/api"
	"rosetta/ops"
	"rosetta/plain"
)

func TestCompose(t *testing.T) {
	for _, c := range []struct{ a, b, want string }{
		{"", "", ""},
		{"k3", "k3", "k3"},
		{"k1 k2", "k2 k1", "k3"},
		{"px", "k1", "px"},
		{"d3", "", "d3"},
		{"", "px", "px"},
		{"d3", "px", "px d3"},
		{"k3", "d3", "d3"},
		{"k3", "k1 d1 k1", "k1 d1 k1"},
		{"k1 d1 k1", "k2", "k1 d1 k1"},
		// The second one drops what the first one puts.
		{"px", "d1", ""},
		{"k1 px k1", "k1 d1 k1", "k2"},
		{"k1 pxyz k1", "k2 d1 k2", "k1 pxz k1"},
		{"k1 pxyz k1", "d5", "d2"},
		{"k1 pxyz k1", "k1 d4", "k1 d1"},
		{"k1 pxyz k1", "d3 k2", "pz d1 k1"},
		// It puts between what the first one puts.
		{"pxz", "k1 py k1", "pxyz"},
		{"k1 pxz d1 k1", "k2 py k2", "k1 pxyz d1 k1"},
		{"pxz", "k1 py d1", "pxy"},
		{"pxz", "d1 py k1", "pyz"},
		// It puts where the first one puts.
		{"k1 px k1", "k1 py k2", "k1 pyx k1"},
		{"k1 px k1", "k2 py k1", "k1 pxy k1"},
		{"k1 px k1", "k1 py d1 k1", "k1 py k1"},
		{"k1 px k1", "k1 d1 py k1", "k1 py k1"},
		// It puts where the first one drops.
		{"k1 d1 k1", "k1 px k1", "k1 px d1 k1"},
		{"d2", "px", "px d2"},
		{"k1 px d1 k1", "k1 py k2", "k1 pyx d1 k1"},
		{"k1 px d1 k1", "k2 py k1", "k1 pxy d1 k1"},
		// What one drops, and what the other one drops beside it.
		{"k1 d1 k1", "d1 k1", "d2 k1"},
		{"k1 d1 k1", "k1 d1", "k1 d2"},
		{"d1 k1 d1", "d1", "d3"},
		{"d1 px k1", "k1 d1", "px d2"},
		{"d1 px k1 py", "d1 k1 d1", "d1 k1"},
		// Both go over their least forms.
		{"d1 px d1", "k1 py", "pxy d2"},
		{"px d1 py", "d1 k1", "py d1"},
		{"px k1", "d1 py k1", "py k1"},
		{"k2", "d1 px d1", "px d2"},
		{"p\u00E9 k1", "k2 d1", "p\u00E9 d1"},
	} {
		got, err := ops.Compose(op(c.a), op(c.b))
		wantOp(t, "Compose("+c.a+"; "+c.b+")", got, err, op(c.want))
	}
}

func TestTransform(t *testing.T) {
	for _, c := range []struct{ a, b, first, behind string }{
		{"", "", "", ""},
		{"k3", "k3", "k3", "k3"},
		{"k1 px k1", "k2", "k1 px k1", "k1 px k1"},
		{"k2", "k1 px k1", "k3", "k3"},
		// Both put at one place.
		{"px", "pyz", "px k2", "k2 px"},
		{"px k1", "pyz k1", "px k3", "k2 px k1"},
		{"k1 px k1", "k1 pyz k1", "k1 px k3", "k3 px k1"},
		{"k1 px", "k1 pyz", "k1 px k2", "k3 px"},
		{"k1 px d1", "k1 pyz k1", "k1 px k2 d1", "k3 px d1"},
		{"k1 d1 px", "k1 pyz k1", "k1 px k2 d1", "k3 px d1"},
		{"k1 px k1", "k1 d1 pyz", "k1 px k2", "k3 px"},
		{"px py k1", "pz k1", "pxy k2", "k1 pxy k1"},
		// Places beside each other are not one.
		{"px k1", "k1 py", "px k2", "px k2"},
		{"k1 px", "py k1", "k2 px", "k2 px"},
		{"k2 px", "k1 py d1", "k2 px", "k2 px"},
		{"k1 px k1", "d2", "px", "px"},
		{"k1 px k1", "py d2", "k1 px", "k1 px"},
		{"k1 px k1", "d1 py d1", "k1 px", "k1 px"},
		// Both drop.
		{"d2", "d2", "", ""},
		{"d2 k1", "k1 d2", "d1", "d1"},
		{"k1 d2", "d2 k1", "d1", "d1"},
		{"k1 d1 k1", "d3", "", ""},
		{"d3", "k1 d1 k1", "d2", "d2"},
		{"k1 d1 k1", "k1 d1 k1", "k2", "k2"},
		{"k1 px d1 k1", "k1 d1 k1", "k1 px k1", "k1 px k1"},
		// One keeps, the other one drops.
		{"k3", "d2 k1", "k1", "k1"},
		{"k3", "d3", "", ""},
		{"d3", "k3", "d3", "d3"},
		// One puts within what the other one drops.
		{"k1 px k2", "d3", "px", "px"},
		{"d3", "k1 px k2", "d1 k1 d2", "d1 k1 d2"},
		{"k1 px k2", "pyz d3", "k2 px", "k2 px"},
		{"pw d3", "k1 px k2", "pw d1 k1 d2", "pw d1 k1 d2"},
	} {
		what := "Transform(" + c.a + "; " + c.b + ")"
		got, err := ops.Transform(op(c.a), op(c.b), true)
		wantOp(t, what+", first", got, err, op(c.first))
		got, err = ops.Transform(op(c.a), op(c.b), false)
		wantOp(t, what, got, err, op(c.behind))
	}
}

func TestComposeOfMany(t *testing.T) {
	d := rand.New(rand.NewSource(8))
	for range 3000 {
		s := anyText(d)
		a, b, c := chain(t, d, s)
		one, err := ops.Compose(a, b)
		wantOp(t, "Compose", one, err, least(play(b, play(a, had(len(s)))), len(s)))
		two, err := ops.Compose(b, c)
		if err != nil {
			t.Fatal(err)
		}
		// Three in whichever order.
		first, err := ops.Compose(one, c)
		if err != nil {
			t.Fatal(err)
		}
		last, err := ops.Compose(a, two)
		wantOp(t, "three", last, err, first)
		made, _ := ops.Apply(a, s)
		made, _ = ops.Apply(b, made)
		if got, err := ops.Apply(one, s); err != nil || got != made {
			t.Fatalf("both in one: %q, %v, not %q", got, err, made)
		}
	}
}

// chain is three operations, each over what those ahead of it make of a text.
func chain(t *testing.T, d *rand.Rand, s string) (a, b, c api.Op) {
	t.Helper()
	a = anyOp(d, s, true)
	s, err := ops.Apply(a, s)
	if err != nil {
		t.Fatal(err)
	}
	b = anyOp(d, s, true)
	s, err = ops.Apply(b, s)
	if err != nil {
		t.Fatal(err)
	}
	return a, b, anyOp(d, s, true)
}

// An operation and what takes it back are, in one, none.
func TestComposeWithInvert(t *testing.T) {
	d := rand.New(rand.NewSource(9))
	for range 1000 {
		s := anyText(d)
		a := anyOp(d, s, true)
		back, err := ops.Invert(a, s)
		if err != nil {
			t.Fatal(err)
		}
		both, err := ops.Compose(a, back)
		if err != nil {
			t.Fatal(err)
		}
		if got, err := ops.Apply(both, s); err != nil || got != s {
			t.Fatalf("%v taken back: %q, %v, not %q", a, got, err, s)
		}
	}
}

// Operations count bytes, of whatever text: one may drop a byte of a rune that the other one puts.
func TestBothOfBytes(t *testing.T) {
	d := rand.New(rand.NewSource(10))
	for range 3000 {
		s := anyText(d)
		a, b := anyOp(d, s, false), anyOp(d, s, false)
		_, is := ops.Lens(a)
		c := anyOp(d, string(make([]byte, is)), false)
		got, err := ops.Compose(a, c)
		wantOp(t, "Compose", got, err, least(play(c, play(a, had(len(s)))), len(s)))
		for _, first := range []bool{true, false} {
			got, err := ops.Transform(a, b, first)
			wantOp(t, "Transform", got, err, turned(a, b, len(s), first))
		}
	}
}

// Promise 4.4, over many pairs: with runes of each size, and both put at one place often.
func TestWhoComesFirstIsNotSeen(t *testing.T) {
	d := rand.New(rand.NewSource(11))
	for range 10_000 {
		s := anyText(d)
		a, b := anyOp(d, s, true), anyOp(d, s, true)
		if after(t, a, b, s, true) != after(t, b, a, s, false) {
			t.Fatalf("%v and %v over %q are not the same in both orders", a, b, s)
		}
		if after(t, a, b, s, false) != after(t, b, a, s, true) {
			t.Fatalf("%v and %v over %q are not the same in both orders", b, a, s)
		}
	}
	// Each pair of some over one text.
	s := "a" + four + "b"
	var l []api.Op
	for range 150 {
		l = append(l, anyOp(d, s, true))
	}
	for _, a := range l {
		for _, b := range l {
			if after(t, a, b, s, true) != after(t, b, a, s, false) {
				t.Fatalf("%v and %v over %q are not the same in both orders", a, b, s)
			}
		}
	}
}

// after is what comes of b over a text, and then of a over what b makes.
func after(t *testing.T, a, b api.Op, s string, first bool) string {
	t.Helper()
	s, err := ops.Apply(b, s)
	if err != nil {
		t.Fatal(err)
	}
	turned, err := ops.Transform(a, b, first)
	if err != nil {
		t.Fatal(err)
	}
	wantOp(t, "the least form", ops.Norm(turned), nil, turned)
	s, err = ops.Apply(turned, s)
	if err != nil {
		t.Fatal(err)
	}
	return s
}

func TestBothErrors(t *testing.T) {
	compose := func(a, b api.Op, want api.Errno) {
		t.Helper()
		got, err := ops.Compose(a, b)
		wantError(t, "Compose", err, want)
		if got != nil {
			t.Errorf("%v beside an error", got)
		}
	}
	transform := func(a, b api.Op, want api.Errno) {
		t.Helper()
		for _, first := range []bool{true, false} {
			got, err := ops.Transform(a, b, first)
			wantError(t, "Transform", err, want)
			if got != nil {
				t.Errorf("%v beside an error", got)
			}
		}
	}
	arg, form := api.Op{{Keep: 1, Drop: 1}}, api.Op{{Put: "\xFF"}}
	for _, both := range []func(a, b api.Op, want api.Errno){compose, transform} {
		both(arg, op("k2"), api.ErrArg)
		both(op("k2"), arg, api.ErrArg)
		both(form, nil, api.ErrForm)
		both(nil, form, api.ErrForm)
		both(arg, form, api.ErrArg) // a's is told first
		both(form, arg, api.ErrForm)
		both(form, op("k9"), api.ErrForm) // and what Check says ahead of the other
		both(op("k9"), arg, api.ErrArg)
		both(api.Op{{Keep: -1}}, nil, api.ErrArg)
		both(nil, api.Op{{}}, api.ErrArg)
		both(op("k2"), op("k3"), api.ErrRange)
		both(op("k3"), op("k2 px"), api.ErrRange)
		both(nil, op("d1"), api.ErrRange)
		both(op("k1"), nil, api.ErrRange)
		most := api.Part{Keep: math.MaxInt}
		for _, great := range []api.Op{{most, most}, {most, most, {Drop: 5}}, {{Drop: math.MaxInt}, most, {Keep: 2}}} {
			both(great, nil, api.ErrRange)
			both(great, great, api.ErrRange)
			both(nil, great, api.ErrRange)
			both(great, op("k3"), api.ErrRange)
			both(great, form, api.ErrRange) // a's is told first
		}
	}
	compose(op("k1 px"), op("k1"), api.ErrRange)
	compose(op("k1 d1"), op("k2"), api.ErrRange)
	compose(op("p\u00E9"), op("k1"), api.ErrRange) // it puts two bytes
	compose(api.Op{{Keep: math.MaxInt}, {Put: "x"}}, op("k1"), api.ErrRange)
	transform(op("px"), op("k1"), api.ErrRange)
	transform(op("k1 px"), op("k2"), api.ErrRange)
	// How many come is nothing to Transform, how many there were is nothing to Compose.
	if _, err := ops.Transform(op("k1 px"), op("d1"), true); err != nil {
		t.Error(err)
	}
	if _, err := ops.Compose(op("k1 px d3"), op("k2")); err != nil {
		t.Error(err)
	}
}

// Keeps and Drops may be as much as 2^40 together.
func TestBothOfGreat(t *testing.T) {
	half := "549755813888" // 2^39
	got, err := ops.Compose(op("k"+half+" px d"+half), op("k"+half+" d1"))
	wantOp(t, "Compose", got, err, op("k"+half+" d"+half))
	got, err = ops.Transform(op("k"+half+" px d"+half), op("d"+half+" py k"+half), true)
	wantOp(t, "Transform", got, err, op("k1 px d"+half))
}

// What is handed in stays as it is, and what comes out is of its own (P4).
func TestBothAreTheirOwn(t *testing.T) {
	d := rand.New(rand.NewSource(12))
	for range 500 {
		s := anyText(d)
		a, sameA := guarded(t, anyOp(d, s, false))
		b, sameB := guarded(t, anyOp(d, s, false))
		_, is := ops.Lens(a)
		c, sameC := guarded(t, anyOp(d, string(make([]byte, is)), false))
		for _, ask := range []func() (api.Op, error){
			func() (api.Op, error) { return ops.Transform(a, b, true) },
			func() (api.Op, error) { return ops.Transform(a, b, false) },
			func() (api.Op, error) { return ops.Transform(a, a, true) },
			func() (api.Op, error) { return ops.Compose(a, c) },
		} {
			one, err := ask()
			if err != nil {
				t.Fatal(err)
			}
			was := slices.Clone(one)
			two, _ := ask()
			spoil(two)
			three, _ := ask()
			if !plain.Same(one, was) || !plain.Same(three, was) {
				t.Errorf("two answers share memory")
			}
		}
		sameA()
		sameB()
		sameC()
	}
}
