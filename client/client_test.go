package client_test

// Promise 8.1: New, Edit, Asks, and what a client tells of itself.

import (
	"math"
	"strings"
	"testing"

	"rosetta/api"
	"rosetta/bridge"
	"rosetta/client"
	"rosetta/rope"
	"rosetta/server"
)

func TestNew(t *testing.T) {
	for _, unit := range units {
		for _, s := range []string{"", "a", "\n", "\x00", two, three, four, "a" + two + three + four + "\nb", strings.Repeat("a", api.MaxDoc+1), strings.Repeat(four, api.MaxHeld/4)} {
			made(t, unit, s)
		}
	}
	// Who it is may be any number.
	for _, who := range []int{0, -1, math.MaxInt, math.MinInt} {
		c, err := client.New(who, api.Runes, "ab")
		wantError(t, "who", err, api.OK, -1)
		edit(t, c, "k2 pc")
		take(t, c, server.Entry{Client: who, Id: 1, Op: op("k2 pc")})
		want(t, "who", c, state{text: "abc", seen: "abc", rev: 1})
	}
}

func TestNewErrors(t *testing.T) {
	full := strings.Repeat("a", api.MaxHeld)
	for _, c := range []struct {
		what string
		unit int
		s    string
		want api.Errno
		at   int
	}{
		{"no unit", 0, "a", api.ErrArg, -1},
		{"no unit, behind the last one", api.Runes + 1, "a", api.ErrArg, -1},
		{"no unit, below 0", -1, "", api.ErrArg, -1},
		{"no unit ahead of no text", 0, "a\xFF", api.ErrArg, -1},
		{"no unit ahead of too much", 4, full + "a", api.ErrArg, -1},
		{"no text", api.Bytes, "\xFF", api.ErrForm, 0},
		{"no text further on", api.Halves, "a" + four + "\x80b\xFF", api.ErrForm, 5},
		{"no text at its end", api.Runes, "ab" + four[:3], api.ErrForm, 2},
		{"no text ahead of too much", api.Runes, full + "\xFF", api.ErrForm, api.MaxHeld},
		{"too much", api.Bytes, full + "a", api.ErrFull, -1},
		{"too much, in halves", api.Halves, full + "a", api.ErrFull, -1},
		{"too much, in runes", api.Runes, full[1:] + two, api.ErrFull, -1},
	} {
		got, err := client.New(me, c.unit, c.s)
		wantError(t, c.what, err, c.want, c.at)
		if got != nil {
			t.Errorf("%s: a client beside an error", c.what)
		}
	}
}

// The first edit is on its way, the next one waits, and all behind it are one with that.
func TestEdit(t *testing.T) {
	c := made(t, api.Bytes, "abc")
	edit(t, c, "k1 d1 pxy k1") // example 2 of the document
	want(t, "on its way", c, state{text: "axyc", seen: "abc", pending: true, id: 1, way: "k1 d1 pxy k1"})
	edit(t, c, "k1 k1 k2 p- p!")
	want(t, "it waits", c, state{text: "axyc-!", seen: "abc", pending: true, id: 1, way: "k1 d1 pxy k1"})
	edit(t, c, "k2 d3 k1")
	edit(t, c, "k3 pz")
	want(t, "all wait", c, state{text: "ax!z", seen: "abc", pending: true, id: 1, way: "k1 d1 pxy k1"})
	take(t, c, own(t, c))
	want(t, "on its way is what waited, in one", c, state{text: "ax!z", seen: "axyc", rev: 1, pending: true, id: 2, way: "k2 p!z d2"})
	edit(t, c, "k4")
	take(t, c, own(t, c))
	want(t, "what waited is as it was told", c, state{text: "ax!z", seen: "ax!z", rev: 2, pending: true, id: 3, way: "k4"})
	take(t, c, own(t, c))
	want(t, "nothing is left", c, state{text: "ax!z", seen: "ax!z", rev: 3})
	edit(t, c, "d4")
	want(t, "numbers go on", c, state{seen: "ax!z", rev: 3, pending: true, id: 4, way: "d4"})
}

// What is on its way, and what waits alone, is what was told, part by part, and not in least form.
func TestEditPartByPart(t *testing.T) {
	s := "a" + two + three + four
	for _, unit := range units {
		c := made(t, unit, s)
		n := func(s string) api.Part { return api.Part{Keep: size(s, unit)} }
		one := api.Op{n("a"), n(two), {Drop: size(three, unit)}, {Put: "x"}, {Put: "y"}, n(four)}
		wantError(t, "one", c.Edit(one), api.OK, -1)
		want(t, "one", c, state{text: "a" + two + "xy" + four, seen: s, pending: true, id: 1, way: "k1 k2 d3 px py k4"})
		wantError(t, "two", c.Edit(api.Op{n("a"), n(two), n("xy"), {Drop: size(four, unit)}, {Put: four}}), api.OK, -1)
		take(t, c, own(t, c))
		want(t, "two", c, state{text: "a" + two + "xy" + four, seen: "a" + two + "xy" + four, rev: 1, pending: true, id: 2, way: "k1 k2 k2 d4 p" + four})
	}
}

// Example 6 of the document: the same drop in each unit.
func TestEditInItsUnit(t *testing.T) {
	for i, n := range []int{4, 2, 1} {
		c := made(t, units[i], "a"+four+"b")
		wantError(t, "smiling", c.Edit(api.Op{{Keep: 1}, {Drop: n}, {Keep: 1}}), api.OK, -1)
		want(t, "smiling", c, state{text: "ab", seen: "a" + four + "b", pending: true, id: 1, way: "k1 d4 k1"})
	}
}

// An operation that has no part is one, too.
func TestEditOfNothing(t *testing.T) {
	c := made(t, api.Halves, "")
	edit(t, c, "")
	want(t, "on its way", c, state{pending: true, id: 1})
	edit(t, c, "")
	take(t, c, server.Entry{Client: me, Id: 1})
	want(t, "what waited", c, state{rev: 1, pending: true, id: 2})
	edit(t, c, "px")
	edit(t, c, "d1")
	want(t, "nothing in two steps", c, state{rev: 1, pending: true, id: 2})
	take(t, c, entry("py"))
	want(t, "another one's", c, state{text: "y", seen: "y", rev: 2, pending: true, id: 2, way: "k1"})
	take(t, c, own(t, c))
	take(t, c, own(t, c))
	want(t, "all landed", c, state{text: "y", seen: "y", rev: 4})
}

// Each error is told ahead of those that chapter 8 names behind it, and nothing is changed.
func TestEditErrors(t *testing.T) {
	s := two + strings.Repeat("a", api.MaxDoc-6) + four
	all := api.Part{Keep: len(s)}
	parts := func(n int, last ...api.Part) api.Op {
		var l api.Op
		for range n - len(last) {
			l = append(l, api.Part{Put: "x"})
		}
		return append(l, last...)
	}
	much := api.Part{Put: strings.Repeat("x", api.MaxPut+1)}
	for _, c := range []struct {
		what string
		op   api.Op
		want api.Errno
	}{
		{"too many parts", parts(api.MaxParts+1, all), api.ErrLimit},
		{"too many parts that keep", append(make(api.Op, api.MaxParts), all), api.ErrLimit},
		{"too many parts ahead of no part", parts(api.MaxParts+1, api.Part{}), api.ErrLimit},
		{"too many parts ahead of no text", parts(api.MaxParts+1, api.Part{Put: "\xFF"}, all), api.ErrLimit},
		{"one puts too much", api.Op{all, much}, api.ErrLimit},
		{"one puts too much, by bytes", api.Op{all, {Put: strings.Repeat(three, api.MaxPut/3+1)}}, api.ErrLimit},
		{"one puts too much ahead of no part", api.Op{{}, {Keep: -1}, much}, api.ErrLimit},
		{"one puts too much, and keeps", api.Op{{Keep: len(s), Put: much.Put}}, api.ErrLimit},
		{"one puts too much, and it is no text", api.Op{all, {Put: strings.Repeat("\xFF", api.MaxPut+1)}}, api.ErrLimit},
		{"one puts too much ahead of how much", api.Op{much}, api.ErrLimit},
		{"no part", api.Op{all, {}}, api.ErrArg},
		{"below 0", api.Op{{Keep: len(s) + 1}, {Drop: -1}}, api.ErrArg},
		{"two in one", api.Op{{Keep: len(s), Put: "x"}}, api.ErrArg},
		{"no part ahead of no text", api.Op{{}, {Put: "\xFF"}}, api.ErrArg},
		{"no part ahead of how much", api.Op{{Keep: 1}, {}}, api.ErrArg},
		{"no text", api.Op{all, {Put: "a\xFF"}}, api.ErrForm},
		{"no text ahead of no part", api.Op{{Put: "\xFF"}, {}}, api.ErrForm},
		{"no text ahead of how much", api.Op{{Put: two[:1]}}, api.ErrForm},
		{"too little", api.Op{{Keep: len(s) - 1}}, api.ErrRange},
		{"too much", api.Op{all, {Drop: 1}}, api.ErrRange},
		{"far too much", api.Op{{Keep: math.MaxInt}, {Keep: math.MaxInt}, {Keep: len(s) + 2}}, api.ErrRange},
		{"nothing", nil, api.ErrRange},
		{"how much ahead of within a rune", api.Op{{Keep: 1}, {Keep: 1}}, api.ErrRange},
		{"within a rune", api.Op{{Keep: 1}, {Keep: len(s) - 1}}, api.ErrOrder},
		{"within the last rune", api.Op{{Keep: len(s) - 1}, {Drop: 1}}, api.ErrOrder},
		{"within a rune ahead of no room", api.Op{{Drop: 1}, {Put: "xyz"}, {Keep: len(s) - 1}}, api.ErrOrder},
		{"no room", api.Op{{Put: "x"}, all}, api.ErrFull},
		{"no room in its place", api.Op{{Drop: 2}, {Put: three}, {Keep: len(s) - 2}}, api.ErrFull},
		{"no room in many parts", parts(api.MaxParts, all), api.ErrFull},
		{"no room at all", api.Op{all, {Put: much.Put[1:]}}, api.ErrFull},
	} {
		x := made(t, api.Bytes, s)
		refuse(t, c.what, x, c.op, c.want)
		wantError(t, "all", x.Edit(api.Op{all}), api.OK, -1)
		refuse(t, c.what+", behind one on its way", x, c.op, c.want)
		wantError(t, "all", x.Edit(api.Op{all}), api.OK, -1)
		refuse(t, c.what+", behind one that waits", x, c.op, c.want)
		take(t, x, own(t, x))
		want(t, "what waits is as it was", x, state{text: s, seen: s, rev: 1, pending: true, id: 2, way: short(api.Op{all})})
	}
}

// Just as much as may be.
func TestEditAtItsBounds(t *testing.T) {
	for _, unit := range units {
		c := made(t, unit, "")
		var l api.Op
		for range api.MaxParts - 1 {
			l = append(l, api.Part{Put: two})
		}
		wantError(t, "parts", c.Edit(append(l, api.Part{Put: strings.Repeat(two, api.MaxPut/2)})), api.OK, -1)
		s := strings.Repeat(two, api.MaxParts-1+api.MaxPut/2)
		for len(s) < api.MaxDoc {
			put := strings.Repeat("x", min(api.MaxPut, api.MaxDoc-len(s)))
			wantError(t, "put", c.Edit(api.Op{{Keep: size(s, unit)}, {Put: put}}), api.OK, -1)
			s += put
		}
		if c.Text() != s || len(s) != api.MaxDoc {
			t.Errorf("%q, not %q", c.Text(), s)
		}
		refuse(t, "one more", c, api.Op{{Put: "x"}, {Keep: size(s, unit)}}, api.ErrFull)
		wantError(t, "in place of another one", c.Edit(api.Op{{Put: two}, {Drop: size(two, unit)}, {Keep: size(s[2:], unit)}}), api.OK, -1)
		if c.Text() != s {
			t.Errorf("%q, not %q", c.Text(), s)
		}
		// What waits is all of these in one: no bound is named for that.
		take(t, c, own(t, c))
		if _, _, way, _ := c.Asks(); len(way) != 4 || len(way[3].Put) <= api.MaxPut {
			t.Errorf("what waited has %d parts: %s", len(way), short(way))
		}
	}
}

// Within a rune is asked in its unit, over its document, its own edits among it.
func TestEditWithinARune(t *testing.T) {
	for _, c := range []struct {
		unit  int
		wrong []string
		right string
	}{
		{api.Bytes, []string{"k1 k6", "k1 px k6", "k4 d3", "d5 k2", "k6 d1", "k2 px d4 k1"}, "k2 px d1 d4"},
		{api.Halves, []string{"k3 d1", "d3 k1", "k1 px k2 k1"}, "k1 px d1 d2"},
		{api.Runes, nil, "k1 px d1 d1"},
	} {
		x := made(t, c.unit, "ab")
		for _, o := range c.wrong {
			refuse(t, "there are not so many yet", x, op(o), api.ErrRange)
		}
		edit(t, x, "d2 p"+two+"a"+four)
		for _, o := range c.wrong {
			refuse(t, o, x, op(o), api.ErrOrder)
		}
		edit(t, x, c.right)
		want(t, c.right, x, state{text: two + "x", seen: "ab", pending: true, id: 1, way: "d2 p" + two + "a" + four})
		take(t, x, own(t, x))
		want(t, c.right, x, state{text: two + "x", seen: two + "a" + four, rev: 1, pending: true, id: 2, way: "k2 px d1 d4"})
	}
}

// A document of more than MaxDoc bytes may be left, but not made.
func TestEditOfMuch(t *testing.T) {
	s := strings.Repeat("a", api.MaxDoc+1)
	c := made(t, api.Runes, s)
	refuse(t, "all is kept", c, api.Op{{Keep: len(s)}}, api.ErrFull)
	wantError(t, "one less", c.Edit(api.Op{{Keep: len(s) - 1}, {Drop: 1}}), api.OK, -1)
	want(t, "one less", c, state{text: s[1:], seen: s, pending: true, id: 1, way: short(api.Op{{Keep: len(s) - 1}, {Drop: 1}})})
}

// What the server tells has no bound: of a document that is longer than a Rope may be an edit asks the same.
func TestEditOfMoreThanMaxHeld(t *testing.T) {
	s := strings.Repeat("a"+four, api.MaxHeld/5)
	for _, unit := range units {
		c := made(t, unit, s)
		take(t, c, entry("p"+four+" k"+short(api.Op{{Keep: len(s)}})[1:]))
		if c.Text() != four+s || c.Seen() != four+s {
			t.Fatalf("%d bytes", len(c.Text()))
		}
		n, one := size(four+s, unit), size(four, unit)
		refuse(t, "too little", c, api.Op{{Drop: n - 1}}, api.ErrRange)
		refuse(t, "no text", c, api.Op{{Put: "\xFF"}}, api.ErrForm)
		refuse(t, "no room", c, api.Op{{Keep: n}}, api.ErrFull)
		if unit != api.Runes {
			refuse(t, "within a rune", c, api.Op{{Drop: n - 1}, {Keep: 1}}, api.ErrOrder)
		}
		wantError(t, "most is dropped", c.Edit(api.Op{{Keep: one}, {Drop: n - 2*one}, {Put: "x"}, {Keep: one}}), api.OK, -1)
		want(t, "most is dropped", c, state{text: four + "x" + four, seen: four + s, rev: 1, pending: true, id: 1, way: short(api.Op{{Keep: 4}, {Drop: len(s) - 4}, {Put: "x"}, {Keep: 4}})})
	}
}

// What comes of an edit is what To tells.
func TestEditIsTo(t *testing.T) {
	d := newDie(21)
	count := map[api.Errno]int{}
	for range 3000 {
		s := anyText(d, 8)
		unit := units[d.Intn(3)]
		o, _ := anyOp(d, s, units[d.Intn(3)])
		if n := size(s, unit); n > 1 && d.Intn(4) == 0 {
			o = api.Op{{Keep: 1 + d.Intn(n-1)}, {Put: "x"}}
			o = append(o, api.Part{Drop: n - o[0].Keep})
		}
		if d.Intn(10) == 0 {
			o = append(o, []api.Part{{}, {Keep: 1}, {Drop: -1}, {Put: "\x80"}, {Keep: 1, Put: "x"}}[d.Intn(5)])
		}
		r, err := rope.New(s)
		if err != nil {
			t.Fatal(err)
		}
		c := made(t, unit, s)
		w, err := bridge.To(r, unit, o)
		count[api.Tell(err)]++
		if err != nil {
			refuse(t, short(o), c, o, api.Tell(err))
			continue
		}
		wantError(t, short(o), c.Edit(o), api.OK, -1)
		if _, _, way, _ := c.Asks(); short(way) != short(w) {
			t.Errorf("%v over %q in %d: %v, not %v", o, s, unit, way, w)
		}
	}
	for _, e := range []api.Errno{api.OK, api.ErrRange, api.ErrArg, api.ErrForm, api.ErrOrder} {
		if count[e] < 20 {
			t.Errorf("error %d was told %d times", e, count[e])
		}
	}
}

// No list that is handed in or comes out is the client's (P4).
func TestListsAreOnesOwn(t *testing.T) {
	spoil := func(l api.Op) {
		for i := range l {
			l[i] = api.Part{Keep: 99}
		}
		_ = append(l, api.Part{Keep: 99})
	}
	c := made(t, api.Bytes, "ab")
	behind := append(op("k1 px k1"), api.Part{Keep: 1})[:3] // there is room behind its length
	wantError(t, "Edit", c.Edit(behind), api.OK, -1)
	if behind[:4][3] != (api.Part{Keep: 1}) || short(behind) != "k1 px k1" {
		t.Errorf("what was handed in is %v now", behind[:4])
	}
	spoil(behind)
	waits := op("k3 py")
	wantError(t, "Edit", c.Edit(waits), api.OK, -1)
	spoil(waits)
	_, _, way, _ := c.Asks()
	spoil(way)
	e := entry("pz k2")
	take(t, c, e)
	if short(e.Op) != "pz k2" {
		t.Errorf("what was handed in is %v now", e.Op)
	}
	spoil(e.Op)
	want(t, "all were spoilt", c, state{text: "zaxby", seen: "zab", rev: 1, pending: true, id: 1, way: "k2 px k1"})
	e = own(t, c)
	take(t, c, e)
	spoil(e.Op)
	want(t, "its own was spoilt", c, state{text: "zaxby", seen: "zaxb", rev: 2, pending: true, id: 2, way: "k4 py"})
}

// A client that New did not make panics nowhere.
func TestNoClient(t *testing.T) {
	for _, c := range []*client.Client{nil, {}} {
		want(t, "no client", c, state{})
		if c.Unit() != 0 {
			t.Errorf("unit %d", c.Unit())
		}
		for _, o := range []api.Op{nil, op("px"), {{}}} {
			if err := c.Edit(o); err == nil {
				t.Error("there is none that could edit")
			}
			if err := c.Take(0, server.Entry{Op: o}); err == nil {
				t.Error("there is none that could take")
			}
		}
		c.Refused(0)
		want(t, "no client still", c, state{})
	}
}
