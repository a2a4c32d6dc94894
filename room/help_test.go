package room_test

// What the tests of this package share: rooms, operations written short, and what a room must be behind all that was done.

import (
	"strconv"
	"strings"
	"testing"

	"rosetta/api"
	"rosetta/client"
	"rosetta/plain"
	"rosetta/room"
)

const (
	two   = "\u00E9"
	three = "\u20AC"
	four  = "\U0001F600"
)

var units = []int{api.Bytes, api.Halves, api.Runes}

// op is an operation written short: k3 keeps, d2 drops, pxy puts.
func op(short string) api.Op {
	var l api.Op
	for _, w := range strings.Fields(short) {
		n, _ := strconv.Atoi(w[1:])
		switch w[0] {
		case 'k':
			l = append(l, api.Part{Keep: n})
		case 'd':
			l = append(l, api.Part{Drop: n})
		default:
			l = append(l, api.Part{Put: w[1:]})
		}
	}
	return l
}

// wantError fails unless err is that one, at that place (-1: none).
func wantError(t *testing.T, what string, err error, want api.Errno, at int) {
	t.Helper()
	if e, place := plain.Place(err); e != want || place != at {
		t.Errorf("%s: error %d at %d, not %d at %d", what, e, place, want, at)
	}
	if want == api.OK && err != nil {
		t.Errorf("%s: %v that is not nil", what, err)
	}
}

// made is a room in which nothing was done.
func made(t *testing.T, s string, units ...int) *room.Room {
	t.Helper()
	r, err := room.New(s, units)
	if err != nil || r == nil {
		t.Fatalf("New(%q, %v): %v, %v", s, units, r, err)
	}
	wantRoom(t, "new", r, 0, s, 0, 0)
	for k, unit := range units {
		c := of(t, r, k)
		if c.Unit() != unit {
			t.Errorf("client %d counts in %d, not %d", k, c.Unit(), unit)
		}
		wantClient(t, "new", c, state{text: s, seen: s})
	}
	return r
}

// of is a client of a room.
func of(t *testing.T, r *room.Room, k int) *client.Client {
	t.Helper()
	c, err := r.Client(k)
	if err != nil || c == nil {
		t.Fatalf("Client(%d): %v, %v", k, c, err)
	}
	return c
}

// wantRoom fails unless so many operations were done, they made that text, so many packets are under way, and so many were lost.
func wantRoom(t *testing.T, what string, r *room.Room, rev int, text string, many, lost int) {
	t.Helper()
	if r.Rev() != rev || r.Text() != text || r.Many() != many || r.Lost() != lost {
		t.Errorf("%s: Rev %d, Text %q, Many %d, Lost %d, not %d, %q, %d, %d", what, r.Rev(), r.Text(), r.Many(), r.Lost(), rev, text, many, lost)
	}
}

// state is what a client tells of itself.
type state struct {
	text, seen string
	rev        int
	pending    bool
	dropped    int
}

func wantClient(t *testing.T, what string, c *client.Client, want state) {
	t.Helper()
	if got := (state{c.Text(), c.Seen(), c.Rev(), c.Pending(), c.Dropped()}); got != want {
		t.Errorf("%s: %+v, not %+v", what, got, want)
	}
}

// edit, send, deliver, lose and twice fail unless that is done.
func edit(t *testing.T, r *room.Room, k int, short string) {
	t.Helper()
	wantError(t, "Edit "+short, of(t, r, k).Edit(op(short)), api.OK, -1)
}

func send(t *testing.T, r *room.Room, k int) {
	t.Helper()
	wantError(t, "Send", r.Send(k), api.OK, -1)
}

func deliver(t *testing.T, r *room.Room, i int) {
	t.Helper()
	wantError(t, "Deliver", r.Deliver(i), api.OK, -1)
}

func lose(t *testing.T, r *room.Room, i int) {
	t.Helper()
	wantError(t, "Lose", r.Lose(i), api.OK, -1)
}

func twice(t *testing.T, r *room.Room, i int) {
	t.Helper()
	wantError(t, "Twice", r.Twice(i), api.OK, -1)
}

// done lets a client do operations, one by one, each brought to the server and told to that client; nothing is under way ahead of it, or behind.
func done(t *testing.T, r *room.Room, k int, shorts ...string) {
	t.Helper()
	for _, short := range shorts {
		edit(t, r, k, short)
		send(t, r, k)
		for r.Many() > 0 {
			deliver(t, r, 0)
		}
	}
}
