package client_test

// What the tests of this package share: clients, operations written short, and what a client must be behind all that it was told.

import (
	"math/rand"
	"strconv"
	"strings"
	"testing"
	"unicode/utf16"
	"unicode/utf8"

	"rosetta/api"
	"rosetta/client"
	"rosetta/ops"
	"rosetta/plain"
	"rosetta/server"
)

const (
	two   = "\u00E9"
	three = "\u20AC"
	four  = "\U0001F600"
)

// me is who the clients of these tests are.
const me = 7

var units = []int{api.Bytes, api.Halves, api.Runes}

// op is an operation written short: k3 keeps, d2 drops, pxy puts.
func op(short string) api.Op {
	var l api.Op
	for _, w := range strings.Fields(short) {
		n, _ := strconv.Atoi(w[1:])
		switch w[0] {
		case 'k':
			l = append(l, api.Part{Keep: n})
		case 'd':
			l = append(l, api.Part{Drop: n})
		default:
			l = append(l, api.Part{Put: w[1:]})
		}
	}
	return l
}

// entry is what another client did.
func entry(short string) server.Entry { return server.Entry{Client: me + 1, Id: 1, Op: op(short)} }

// size is how many of a unit a text has, by the library's own means.
func size(s string, unit int) int {
	switch unit {
	case api.Bytes:
		return len(s)
	case api.Halves:
		return len(utf16.Encode([]rune(s)))
	}
	return len([]rune(s))
}

// state is all that a client tells of itself, but who it is.
type state struct {
	text, seen string
	rev        int
	pending    bool
	dropped    int
	id         int // of what is on its way
	way        string
}

// of is what a client tells.
func of(t *testing.T, what string, c *client.Client) state {
	t.Helper()
	id, rev, way, ok := c.Asks()
	if rev != c.Rev() || ok != c.Pending() {
		t.Errorf("%s: Asks: rev %d, %v; Rev %d, Pending %v", what, rev, ok, c.Rev(), c.Pending())
	}
	if !ok && (id != 0 || len(way) > 0) {
		t.Errorf("%s: nothing is on its way, but Asks is %d, %v", what, id, way)
	}
	return state{c.Text(), c.Seen(), c.Rev(), ok, c.Dropped(), id, short(way)}
}

// short is op, the other way round.
func short(op api.Op) string {
	var l []string
	for _, p := range op {
		switch {
		case p.Keep > 0:
			l = append(l, "k"+strconv.Itoa(p.Keep))
		case p.Drop > 0:
			l = append(l, "d"+strconv.Itoa(p.Drop))
		default:
			l = append(l, "p"+p.Put)
		}
	}
	return strings.Join(l, " ")
}

// want fails unless a client is so.
func want(t *testing.T, what string, c *client.Client, w state) {
	t.Helper()
	if got := of(t, what, c); got != w {
		t.Errorf("%s: %+v, not %+v", what, got, w)
	}
}

// wantError fails unless err is that one, at that place (-1: none).
func wantError(t *testing.T, what string, err error, want api.Errno, at int) {
	t.Helper()
	if e, place := plain.Place(err); e != want || place != at {
		t.Errorf("%s: error %d at %d, not %d at %d", what, e, place, want, at)
	}
	if want == api.OK && err != nil {
		t.Errorf("%s: %v that is not nil", what, err)
	}
}

func made(t *testing.T, unit int, s string) *client.Client {
	t.Helper()
	c, err := client.New(me, unit, s)
	if err != nil || c == nil {
		t.Fatalf("New(%d, %q): %v, %v", unit, s, c, err)
	}
	want(t, "new", c, state{text: s, seen: s})
	if got := c.Unit(); got != unit {
		t.Errorf("unit %d, not %d", got, unit)
	}
	return c
}

// edit and take fail unless the client does that.
func edit(t *testing.T, c *client.Client, short string) {
	t.Helper()
	wantError(t, "Edit "+short, c.Edit(op(short)), api.OK, -1)
}

func take(t *testing.T, c *client.Client, e server.Entry) {
	t.Helper()
	wantError(t, "Take "+short(e.Op), c.Take(c.Rev(), e), api.OK, -1)
}

// own is the client's entry of what is on its way, if it is done as it is.
func own(t *testing.T, c *client.Client) server.Entry {
	t.Helper()
	id, _, way, ok := c.Asks()
	if !ok {
		t.Fatal("nothing is on its way")
	}
	return server.Entry{Client: me, Id: id, Op: way}
}

// refuse fails unless a client tells that error of an edit, and is as it was.
func refuse(t *testing.T, what string, c *client.Client, op api.Op, e api.Errno) {
	t.Helper()
	was := of(t, what, c)
	wantError(t, what, c.Edit(op), e, -1)
	want(t, what, c, was)
}

// spoilt fails unless a client tells so of an entry, and is as it was.
func spoilt(t *testing.T, what string, c *client.Client, e server.Entry) {
	t.Helper()
	was := of(t, what, c)
	wantError(t, what, c.Take(c.Rev(), e), api.ErrSpoilt, -1)
	want(t, what, c, was)
}

// anyText has runes of each size.
func anyText(d *rand.Rand, most int) string {
	var b strings.Builder
	for range d.Intn(most + 1) {
		b.WriteString([]string{"a", "\n", two, three, four}[d.Intn(5)])
	}
	return b.String()
}

// anyOp is an operation over a text, in a unit and in bytes; most parts end between two runes.
func anyOp(d *rand.Rand, s string, unit int) (api.Op, api.Op) {
	var l, bytes api.Op
	for s != "" || d.Intn(3) > 0 {
		n := min(len(s), 1+d.Intn(6))
		for n < len(s) && !utf8.RuneStart(s[n]) {
			n++
		}
		switch kind := d.Intn(4); {
		case kind == 0 || n == 0:
			p := api.Part{Put: []string{"x", "yz", two, three, four, "\n"}[d.Intn(6)]}
			l, bytes = append(l, p), append(bytes, p)
		case kind == 1:
			l, bytes = append(l, api.Part{Drop: size(s[:n], unit)}), append(bytes, api.Part{Drop: n})
			s = s[n:]
		default:
			l, bytes = append(l, api.Part{Keep: size(s[:n], unit)}), append(bytes, api.Part{Keep: n})
			s = s[n:]
		}
	}
	return l, bytes
}

// model is what a client must be, written down at length.
type model struct {
	seen      string
	way, wait *api.Op
	state     state
}

// text is what comes of all that is not there yet over what was seen.
func (m *model) text(t *testing.T) string {
	t.Helper()
	s := m.seen
	for _, o := range []*api.Op{m.way, m.wait} {
		if o == nil {
			continue
		}
		next, err := ops.Apply(*o, s)
		if err != nil {
			t.Fatalf("%v over %q: %v", *o, s, err)
		}
		s = next
	}
	return s
}

// edit is chapter 8's Edit, of an operation in bytes that has no error.
func (m *model) edit(o api.Op) {
	switch {
	case m.way == nil:
		m.way = &o
		m.state.id++
	case m.wait == nil:
		m.wait = &o
	default:
		both, _ := ops.Compose(*m.wait, o)
		m.wait = &both
	}
}

// landed is chapter 8's Take of its own.
func (m *model) landed(o api.Op) {
	m.seen, _ = ops.Apply(o, m.seen)
	m.state.rev++
	m.way, m.wait = m.wait, nil
	if m.way != nil {
		m.state.id++
	}
}

// other is chapter 8's Take of another one's.
func (m *model) other(o api.Op) {
	m.seen, _ = ops.Apply(o, m.seen)
	m.state.rev++
	if m.way == nil {
		return
	}
	behind, _ := ops.Transform(o, *m.way, true)
	way, _ := ops.Transform(*m.way, o, false)
	m.way = &way
	if m.wait != nil {
		wait, _ := ops.Transform(*m.wait, behind, false)
		m.wait = &wait
	}
}

// refused is chapter 8's Refused of what is on its way.
func (m *model) refused() {
	m.way, m.wait = nil, nil
	m.state.dropped++
}

// is is what the client must tell.
func (m *model) is(t *testing.T) state {
	t.Helper()
	s := m.state
	s.text, s.seen, s.pending = m.text(t), m.seen, m.way != nil
	if m.way == nil {
		s.id = 0
	} else {
		s.way = short(*m.way)
	}
	return s
}
