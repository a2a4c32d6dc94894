package server_test

// What the tests of this package share: servers, operations written short, and what a server must be behind all that it was told.

import (
	"math/rand"
	"slices"
	"strconv"
	"strings"
	"testing"
	"unicode/utf8"

	"rosetta/api"
	"rosetta/ops"
	"rosetta/plain"
	"rosetta/server"
)

const (
	two   = "\u00E9"
	three = "\u20AC"
	four  = "\U0001F600"
)

// op is an operation written short: k3 keeps, d2 drops, pxy puts.
func op(short string) api.Op {
	var l api.Op
	for _, w := range strings.Fields(short) {
		n, _ := strconv.Atoi(w[1:])
		switch w[0] {
		case 'k':
			l = append(l, api.Part{Keep: n})
		case 'd':
			l = append(l, api.Part{Drop: n})
		default:
			l = append(l, api.Part{Put: w[1:]})
		}
	}
	return l
}

// made is a server of a text, to which nothing was told.
func made(t *testing.T, s string) *server.Server {
	t.Helper()
	x, err := server.New(s)
	if err != nil || x == nil {
		t.Fatalf("New(%q): %v, %v", s, x, err)
	}
	wantServer(t, "new", x, s)
	return x
}

// wantError fails unless err is that one, at that place (-1: none).
func wantError(t *testing.T, what string, err error, want api.Errno, at int) {
	t.Helper()
	if e, place := plain.Place(err); e != want || place != at {
		t.Errorf("%s: error %d at %d, not %d at %d", what, e, place, want, at)
	}
	if want == api.OK && err != nil {
		t.Errorf("%s: %v that is not nil", what, err)
	}
}

func sameEntry(a, b server.Entry) bool {
	return a.Client == b.Client && a.Id == b.Id && plain.Same(a.Op, b.Op)
}

// log is all that a server says was done.
func log(t *testing.T, x *server.Server) []server.Entry {
	t.Helper()
	l, err := x.Log(0)
	if err != nil || len(l) != x.Rev() {
		t.Fatalf("Log(0): %v, %v; Rev %d", l, err, x.Rev())
	}
	return l
}

// wantServer fails unless a server's document is s, and just that was done.
func wantServer(t *testing.T, what string, x *server.Server, s string, done ...server.Entry) {
	t.Helper()
	if got := x.Text(); got != s {
		t.Errorf("%s: %q, not %q", what, got, s)
	}
	if got := x.Rev(); got != len(done) {
		t.Errorf("%s: Rev %d, not %d", what, got, len(done))
	}
	if got := log(t, x); !slices.EqualFunc(got, done, sameEntry) {
		t.Errorf("%s: done is %v, not %v", what, got, done)
	}
}

func wantLast(t *testing.T, what string, x *server.Server, client, id int, e api.Errno) {
	t.Helper()
	if gotId, got := x.Last(client); gotId != id || got != e {
		t.Errorf("%s: Last(%d) is %d, %d, not %d, %d", what, client, gotId, got, id, e)
	}
}

// take fails unless a server takes an operation, and that is its client's last one then.
func take(t *testing.T, x *server.Server, client, id, rev int, op api.Op) {
	t.Helper()
	before := x.Rev()
	wantError(t, "Take", x.Take(client, id, rev, op), api.OK, -1)
	wantLast(t, "taken", x, client, id, api.OK)
	if x.Rev() != before+1 {
		t.Errorf("Rev %d behind %d", x.Rev(), before)
	}
}

// refuse fails unless a server tells that error of a new operation, which is its client's last one then, and stays as it is in all else.
func refuse(t *testing.T, what string, x *server.Server, client, id, rev int, op api.Op, want api.Errno) {
	t.Helper()
	s, done := x.Text(), log(t, x)
	wantError(t, what, x.Take(client, id, rev, op), want, -1)
	wantServer(t, what, x, s, done...)
	wantLast(t, what, x, client, id, want)
}

// again fails unless a server tells that of an operation that is not new, and stays as it is, its client's last one too.
func again(t *testing.T, what string, x *server.Server, client, id, rev int, op api.Op, want api.Errno) {
	t.Helper()
	s, done := x.Text(), log(t, x)
	last, e := x.Last(client)
	wantError(t, what, x.Take(client, id, rev, op), want, -1)
	wantServer(t, what, x, s, done...)
	wantLast(t, what, x, client, last, e)
}

// anyText has runes of each size.
func anyText(d *rand.Rand, most int) string {
	var b strings.Builder
	for range d.Intn(most + 1) {
		b.WriteString([]string{"a", "\n", two, three, four}[d.Intn(5)])
	}
	return b.String()
}

// anyOp is an operation over a text, like parts side by side among them; whole: all of its parts end between two runes.
func anyOp(d *rand.Rand, s string, whole bool) api.Op {
	var l api.Op
	for at := 0; at < len(s) || d.Intn(3) > 0; {
		n := min(len(s)-at, 1+d.Intn(5))
		for whole && at+n < len(s) && !utf8.RuneStart(s[at+n]) {
			n++
		}
		switch kind := d.Intn(3); {
		case kind == 0 || n == 0:
			l = append(l, api.Part{Put: []string{"x", "yz", two, three, four, "\n"}[d.Intn(6)]})
		case kind == 1:
			l, at = append(l, api.Part{Drop: n}), at+n
		default:
			l, at = append(l, api.Part{Keep: n}), at+n
		}
	}
	return l
}

// model is what a server must be, written down at length: all texts that there were, all that was done, all that was told.
type model struct {
	texts []string
	done  []server.Entry
	told  map[[2]int]api.Errno // by client and number
	last  map[int]int
}

func modelOf(s string) *model {
	return &model{texts: []string{s}, told: map[[2]int]api.Errno{}, last: map[int]int{}}
}

func (m *model) text() string { return m.texts[len(m.texts)-1] }

// take is what chapter 7 says that Take tells.
func (m *model) take(client, id, rev int, op api.Op) api.Errno {
	if id < m.last[client] {
		return api.ErrNone
	}
	key := [2]int{client, id}
	if e, ok := m.told[key]; ok {
		return e
	}
	m.last[client] = id
	e := m.next(client, id, rev, op)
	m.told[key] = e
	return e
}

func (m *model) next(client, id, rev int, op api.Op) api.Errno {
	if rev < 0 || rev >= len(m.texts) {
		return api.ErrRange
	}
	if len(m.done) == api.MaxLog {
		return api.ErrLimit
	}
	if err := ops.Check(op, len(m.texts[rev])); err != nil {
		return api.Tell(err)
	}
	for _, e := range m.done[rev:] {
		op, _ = ops.Transform(op, e.Op, false)
	}
	s, err := ops.Apply(op, m.text())
	if err != nil {
		return api.Tell(err)
	}
	if len(s) > api.MaxDoc {
		return api.ErrFull
	}
	m.texts = append(m.texts, s)
	m.done = append(m.done, server.Entry{Client: client, Id: id, Op: slices.Clone(op)})
	return api.OK
}
