package client_test

// Promise 8.2: Take and Refused.

import (
	"math"
	"math/rand"
	"strings"
	"testing"
	"unicode/utf8"

	"rosetta/api"
	"rosetta/client"
	"rosetta/ops"
	"rosetta/server"
)

func newDie(seed int64) *rand.Rand { return rand.New(rand.NewSource(seed)) }

func TestTakeWithNothingPending(t *testing.T) {
	for _, unit := range units {
		c := made(t, unit, "a"+two)
		take(t, c, entry("k1 p"+four+" k2"))
		want(t, "put", c, state{text: "a" + four + two, seen: "a" + four + two, rev: 1})
		take(t, c, entry("d1 k4 d2"))
		want(t, "dropped", c, state{text: four, seen: four, rev: 2})
		take(t, c, entry("d4"))
		take(t, c, entry(""))
		want(t, "nothing", c, state{rev: 4})
		if c.Unit() != unit {
			t.Errorf("unit %d", c.Unit())
		}
	}
}

// An entry that is not the next one does nothing, whatever it is.
func TestTakeOutOfOrder(t *testing.T) {
	c := made(t, api.Bytes, "ab")
	edit(t, c, "k2 px")
	take(t, c, entry("py k2"))
	was := of(t, "was", c)
	for _, rev := range []int{0, 2, 3, -1, math.MaxInt, math.MinInt} {
		for _, e := range []server.Entry{entry("k3 pz"), entry("k9"), {Op: api.Op{{}}}, own(t, c), {Client: me, Id: 1, Op: op("d3")}} {
			wantError(t, "not the next one", c.Take(rev, e), api.OK, -1)
			want(t, "not the next one", c, was)
		}
	}
	take(t, c, own(t, c))
	want(t, "the next one", c, state{text: "yabx", seen: "yabx", rev: 2})
	wantError(t, "told twice", c.Take(1, server.Entry{Client: me, Id: 1, Op: op("k3 px")}), api.OK, -1)
	want(t, "told twice", c, state{text: "yabx", seen: "yabx", rev: 2})
}

// What could not be done to what was seen is spoilt, whoever did it, with nothing, one or two of its own not there yet.
func TestTakeSpoilt(t *testing.T) {
	s := "a" + two + "b"
	c := made(t, api.Runes, s)
	bad := []api.Op{
		nil, op("k3"), op("k5"), op("k4 d1"), op("px"), op("k2 k2"), op("d2 px d2"), op("k1 k1 k1 k1"),
		{{}, {Keep: 4}}, {{Keep: 4}, {Drop: -1}}, {{Keep: 4, Put: "x"}}, {{Keep: 1, Drop: 3}},
		{{Keep: 4}, {Put: "\xFF"}}, {{Keep: math.MaxInt}, {Keep: math.MaxInt}, {Keep: 6}},
	}
	each := func(what string) {
		t.Helper()
		for _, o := range bad {
			for _, who := range []int{me, me + 1, -1} {
				for id := range 4 {
					spoilt(t, what, c, server.Entry{Client: who, Id: id, Op: o})
				}
			}
		}
	}
	each("nothing is on its way")
	edit(t, c, "k3 px")
	each("one is on its way")
	edit(t, c, "d1 k3 py")
	each("one waits")
	take(t, c, own(t, c))
	want(t, "what waited is as it was", c, state{text: two + "bxy", seen: s + "x", rev: 1, pending: true, id: 2, way: "d1 k4 py"})
}

// Its own of the number that is on its way makes of what was seen just what that would.
func TestTakeItsOwn(t *testing.T) {
	c := made(t, api.Bytes, "aab")
	edit(t, c, "k1 d1 px k1")
	edit(t, c, "k2 py k1")
	for _, o := range []string{"k3", "k1 d1 py k1", "k1 px k2", "d3", "d3 paxbc", "k1 px d1 k1 px"} {
		spoilt(t, o, c, server.Entry{Client: me, Id: 1, Op: op(o)})
	}
	// In other parts it makes the same.
	take(t, c, server.Entry{Client: me, Id: 1, Op: op("d1 k1 px d1 pb")})
	want(t, "its own", c, state{text: "axyb", seen: "axb", rev: 1, pending: true, id: 2, way: "k2 py k1"})
	// Of the number that was on its way it is as another one's.
	take(t, c, server.Entry{Client: me, Id: 1, Op: op("k3 p!")})
	want(t, "its own of another number", c, state{text: "axyb!", seen: "axb!", rev: 2, pending: true, id: 2, way: "k2 py k2"})
	take(t, c, server.Entry{Client: me, Id: 3, Op: op("p? k4")})
	want(t, "its own of a later number", c, state{text: "?axyb!", seen: "?axb!", rev: 3, pending: true, id: 2, way: "k3 py k2"})
	// Of another one its number says nothing.
	take(t, c, server.Entry{Client: me - 1, Id: 2, Op: op("k3 py k2")})
	want(t, "another one's of its number", c, state{text: "?axyyb!", seen: "?axyb!", rev: 4, pending: true, id: 2, way: "k4 py k2"})
	take(t, c, own(t, c))
	want(t, "its own, and nothing waits", c, state{text: "?axyyb!", seen: "?axyyb!", rev: 5})
	// Where nothing is on its way its own is as another one's: after a number that was, and before one that will be.
	take(t, c, server.Entry{Client: me, Id: 2, Op: op("d1 k6")})
	take(t, c, server.Entry{Client: me, Id: 3, Op: op("k5 d1")})
	want(t, "nothing is on its way", c, state{text: "axyyb", seen: "axyyb", rev: 7})
	edit(t, c, "d1 k4")
	take(t, c, own(t, c))
	want(t, "the next number", c, state{text: "xyyb", seen: "xyyb", rev: 8})
}

// Where both put at one place what the server tells is ahead; what both drop is dropped once.
func TestTakeTurnsOver(t *testing.T) {
	for _, c := range []struct {
		what, way, wait, other string
		want                   state
		landed                 string // what waits, when it is on its way
	}{
		{"one place", "k1 px k2", "", "k1 py k2", state{text: "ayxbc", seen: "aybc", way: "k2 px k2"}, ""},
		{"one place that both wrote at", "k1 px k2", "k1 pz k3", "k1 py k2", state{text: "ayzxbc", seen: "aybc", way: "k2 px k2"}, "k2 pz k3"},
		{"behind what is on its way", "k1 px k2", "k2 pz k2", "k1 py k2", state{text: "ayxzbc", seen: "aybc", way: "k2 px k2"}, "k3 pz k2"},
		{"at the beginning", "px k3", "pz k4", "py k3", state{text: "yzxabc", seen: "yabc", way: "k1 px k3"}, "k1 pz k4"},
		{"at the end", "k3 px", "k4 pz", "k3 py", state{text: "abcyxz", seen: "abcy", way: "k4 px"}, "k5 pz"},
		{"it drops what is there", "k1 px k2", "k2 pz k2", "d3", state{text: "xz", way: "px"}, "k1 pz"},
		{"both drop", "k1 d1 k1", "d1 k1", "d2 k1", state{text: "c", seen: "c", way: "k1"}, "k1"},
		{"it drops, and puts", "k1 d1 k1", "k1 px k1", "k1 d2 py", state{text: "ayx", seen: "ay", way: "k2"}, "k2 px"},
		{"what waits drops what is on its way", "k1 pxx k2", "k1 d1 k3", "k2 py k1", state{text: "axbyc", seen: "abyc", way: "k1 pxx k3"}, "k1 d1 k4"},
		{"what waits drops what it puts at", "k3 px", "k1 d2 k1", "k2 py k1", state{text: "ayx", seen: "abyc", way: "k4 px"}, "k1 d1 k1 d1 k1"},
		{"to least form", "k1 k1 k1 px pz", "", "k3", state{text: "abcxz", seen: "abc", way: "k3 pxz"}, ""},
		{"what waits to least form", "k3", "d1 px d1 k1", "k3", state{text: "xc", seen: "abc", way: "k3"}, "px d2 k1"},
	} {
		x := made(t, api.Halves, "abc")
		edit(t, x, c.way)
		if c.wait != "" {
			edit(t, x, c.wait)
		}
		take(t, x, entry(c.other))
		c.want.rev, c.want.pending, c.want.id = 1, true, 1
		want(t, c.what, x, c.want)
		take(t, x, own(t, x))
		seen, err := ops.Apply(op(c.want.way), c.want.seen)
		wantError(t, c.what, err, api.OK, -1)
		w := state{text: c.want.text, seen: seen, rev: 2}
		if c.wait != "" {
			w.pending, w.id, w.way = true, 2, c.landed
		}
		want(t, c.what+", landed", x, w)
	}
}

// Example 9 of the document, without a room: one puts x at the beginning, another one y at the end.
func TestBothEnds(t *testing.T) {
	one, other := made(t, api.Bytes, "-"), made(t, api.Runes, "-")
	edit(t, one, "px k1")
	edit(t, other, "k1 py")
	take(t, one, own(t, one))
	take(t, other, entry("px k1"))
	take(t, one, server.Entry{Client: 2, Id: 1, Op: op("k2 py")})
	take(t, other, own(t, other))
	for _, c := range []*client.Client{one, other} {
		want(t, "both", c, state{text: "x-y", seen: "x-y", rev: 2})
	}
}

// What the server tells has no bound.
func TestTakeMuch(t *testing.T) {
	c := made(t, api.Halves, strings.Repeat(two, api.MaxHeld/2))
	much := strings.Repeat(three, api.MaxHeld)
	take(t, c, server.Entry{Client: 1, Id: 1, Op: api.Op{{Keep: api.MaxHeld}, {Put: much}}})
	s := strings.Repeat(two, api.MaxHeld/2) + much
	want(t, "much", c, state{text: s, seen: s, rev: 1})
	take(t, c, server.Entry{Client: 1, Id: 2, Op: api.Op{{Drop: len(s)}, {Put: "a"}}})
	edit(t, c, "k1 px")
	edit(t, c, "k2 py")
	take(t, c, server.Entry{Client: 1, Id: 3, Op: api.Op{{Put: much}, {Keep: 1}}})
	want(t, "much ahead of its own", c, state{text: much + "axy", seen: much + "a", rev: 3, pending: true, id: 1, way: short(api.Op{{Keep: len(much) + 1}, {Put: "x"}})})
}

func TestRefused(t *testing.T) {
	c := made(t, api.Bytes, "ab")
	for _, id := range []int{0, 1, -1, math.MaxInt} {
		c.Refused(id)
		want(t, "nothing is on its way", c, state{text: "ab", seen: "ab"})
	}
	edit(t, c, "k2 px")
	edit(t, c, "k3 py")
	was := of(t, "was", c)
	for _, id := range []int{0, 2, -1, math.MinInt} {
		c.Refused(id)
		want(t, "another number", c, was)
	}
	take(t, c, entry("pz k2"))
	c.Refused(1)
	want(t, "all is given up", c, state{text: "zab", seen: "zab", rev: 1, dropped: 1})
	c.Refused(1)
	want(t, "told twice", c, state{text: "zab", seen: "zab", rev: 1, dropped: 1})
	// The number is used up, though what had it is not done.
	edit(t, c, "k3 p1")
	want(t, "the next number", c, state{text: "zab1", seen: "zab", rev: 1, dropped: 1, pending: true, id: 2, way: "k3 p1"})
	c.Refused(1)
	want(t, "told late", c, state{text: "zab1", seen: "zab", rev: 1, dropped: 1, pending: true, id: 2, way: "k3 p1"})
	edit(t, c, "k4 p2")
	take(t, c, own(t, c))
	want(t, "what waited", c, state{text: "zab12", seen: "zab1", rev: 2, dropped: 1, pending: true, id: 3, way: "k4 p2"})
	c.Refused(2)
	c.Refused(3)
	want(t, "what waited is given up", c, state{text: "zab1", seen: "zab1", rev: 2, dropped: 2})
	// Its own that it gave up is as another one's.
	take(t, c, server.Entry{Client: me, Id: 3, Op: op("k4 p3")})
	want(t, "it was done", c, state{text: "zab13", seen: "zab13", rev: 3, dropped: 2})
}

// All calls among each other, held against what chapter 8 says at length; and its document is at all times what comes of its own over what was seen.
func TestAgainstModel(t *testing.T) {
	d := newDie(22)
	for range 400 {
		s := anyText(d, 8)
		c, m := made(t, units[d.Intn(3)], s), &model{seen: s}
		for range 30 {
			what := "Edit"
			switch d.Intn(8) {
			case 0, 1, 2:
				o, bytes := anyOp(d, c.Text(), c.Unit())
				if len(o) > api.MaxParts {
					continue
				}
				wantError(t, what, c.Edit(o), api.OK, -1)
				m.edit(bytes)
			case 3, 4:
				what = "Take of another one's"
				_, o := anyOp(d, c.Seen(), api.Bytes)
				take(t, c, server.Entry{Client: me + d.Intn(2), Id: 1000, Op: o})
				m.other(o)
			case 5, 6:
				what = "Take of its own"
				if c.Pending() {
					e := own(t, c)
					take(t, c, e)
					m.landed(e.Op)
				}
			default:
				what = "Refused"
				id, _, _, ok := c.Asks()
				off := d.Intn(2)
				c.Refused(id + off)
				if ok && off == 0 {
					m.refused()
				}
			}
			want(t, what, c, m.is(t))
			if t.Failed() {
				t.FailNow()
			}
		}
	}
}

// Clients that write at the same time, and hear late, by a server: what each has seen was the server's document; when all was heard all have one document.
func TestWithAServer(t *testing.T) {
	d := newDie(23)
	dropped := 0
	for range 60 {
		w := worldOf(t, anyText(d, 8)+strings.Repeat("a", d.Intn(2)*(api.MaxDoc-100)))
		for range 80 {
			c := w.clients[d.Intn(len(w.clients))]
			switch d.Intn(4) {
			case 0, 1:
				wantError(t, "Edit", c.Edit(anyEdit(d, c)), api.OK, -1)
			case 2:
				w.hear(t, c, d.Intn(4))
			default:
				w.ask(c)
			}
			w.check(t)
		}
		for range 3 {
			for _, c := range w.clients {
				w.ask(c)
				w.hear(t, c, w.server.Rev())
			}
		}
		for _, c := range w.clients {
			w.hear(t, c, w.server.Rev())
			dropped += c.Dropped()
			if c.Pending() || c.Text() != w.server.Text() || c.Seen() != c.Text() {
				t.Fatalf("%q, seen %q, pending %v; the server's %q", c.Text(), c.Seen(), c.Pending(), w.server.Text())
			}
		}
	}
	if dropped < 10 {
		t.Errorf("%d were refused", dropped)
	}
}

// anyEdit is an operation over a client's document; one that is long it fills, or cuts at its beginning.
func anyEdit(d *rand.Rand, c *client.Client) api.Op {
	s, unit := c.Text(), c.Unit()
	if len(s) < 200 {
		for {
			if o, _ := anyOp(d, s, unit); len(o) <= api.MaxParts {
				return o
			}
		}
	}
	room := api.MaxDoc - len(s)
	if room > 0 && d.Intn(2) == 0 {
		return api.Op{{Keep: size(s, unit)}, {Put: strings.Repeat("x", min(room, api.MaxPut))}}
	}
	n := max(1, -room) + d.Intn(50)
	for !utf8.RuneStart(s[n]) {
		n++
	}
	return api.Op{{Drop: size(s[:n], unit)}, {Keep: size(s[n:], unit)}}
}

// world is a server, its clients, and all documents that the server had.
type world struct {
	server  *server.Server
	clients []*client.Client
	texts   []string
}

func worldOf(t *testing.T, s string) *world {
	t.Helper()
	x, err := server.New(s)
	wantError(t, "server", err, api.OK, -1)
	w := &world{server: x, texts: []string{s}}
	for who, unit := range append(units, api.Runes) {
		c, err := client.New(who, unit, s)
		wantError(t, "client", err, api.OK, -1)
		w.clients = append(w.clients, c)
	}
	return w
}

// ask brings what a client has on its way to the server, and back what that refuses.
func (w *world) ask(c *client.Client) {
	id, rev, o, ok := c.Asks()
	if !ok {
		return
	}
	err := w.server.Take(w.who(c), id, rev, o)
	if e := api.Tell(err); e != api.OK && e != api.ErrNone {
		c.Refused(id)
	}
	if w.server.Rev() == len(w.texts) {
		w.texts = append(w.texts, w.server.Text())
	}
}

// hear tells a client so many entries, at most, that it did not hear yet.
func (w *world) hear(t *testing.T, c *client.Client, most int) {
	t.Helper()
	l, err := w.server.Log(c.Rev())
	wantError(t, "Log", err, api.OK, -1)
	for _, e := range l[:min(most, len(l))] {
		wantError(t, "Take", c.Take(c.Rev(), e), api.OK, -1)
	}
}

func (w *world) who(c *client.Client) int {
	for who, other := range w.clients {
		if other == c {
			return who
		}
	}
	return -1
}

func (w *world) check(t *testing.T) {
	t.Helper()
	for _, c := range w.clients {
		if c.Seen() != w.texts[c.Rev()] {
			t.Fatalf("seen %q, behind %d it was %q", c.Seen(), c.Rev(), w.texts[c.Rev()])
		}
	}
}
