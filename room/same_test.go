package room_test

// Promise 9.4: all see the same.

import (
	"math/rand"
	"strings"
	"testing"
	"unicode/utf16"
	"unicode/utf8"

	"rosetta/api"
	"rosetta/client"
	"rosetta/room"
)

// world is a room, and all documents that its server had.
type world struct {
	die   *rand.Rand
	room  *room.Room
	n     int
	texts []string
}

// step does one thing, and asks what is to be true behind it.
func (w *world) step(t *testing.T, loss int) {
	t.Helper()
	r, d := w.room, w.die
	many := r.Many()
	switch k := d.Intn(w.n); d.Intn(9) {
	case 0, 1, 2:
		c := of(t, r, k)
		wantError(t, "Edit", c.Edit(anyEdit(d, c)), api.OK, -1)
	case 3, 4:
		send(t, r, k)
	case 5:
		if many > 0 && d.Intn(100) < loss {
			lose(t, r, d.Intn(many))
		}
	case 6:
		if many > 0 {
			twice(t, r, d.Intn(many))
		}
	default:
		if many > 0 {
			deliver(t, r, d.Intn(many))
		}
	}
	w.check(t)
}

// one lets a client do an operation, of which all comes at once.
func (w *world) one(t *testing.T) {
	t.Helper()
	k := w.die.Intn(w.n)
	c := of(t, w.room, k)
	wantError(t, "Edit", c.Edit(anyEdit(w.die, c)), api.OK, -1)
	send(t, w.room, k)
	for w.room.Many() > 0 {
		deliver(t, w.room, 0)
		w.check(t)
	}
}

// check fails if a client has seen what the server's document was not behind so many operations.
func (w *world) check(t *testing.T) {
	t.Helper()
	r := w.room
	if r.Rev() == len(w.texts) {
		w.texts = append(w.texts, r.Text())
	}
	if r.Rev() != len(w.texts)-1 || r.Text() != w.texts[r.Rev()] || r.Many() > api.MaxFlight {
		t.Fatalf("Rev %d, %q, %d packets; behind %d it was %q", r.Rev(), r.Text(), r.Many(), len(w.texts)-1, w.texts[len(w.texts)-1])
	}
	for k := range w.n {
		c := of(t, r, k)
		if c.Seen() != w.texts[c.Rev()] {
			t.Fatalf("client %d has seen %q, behind %d it was %q", k, c.Seen(), c.Rev(), w.texts[c.Rev()])
		}
		if !c.Pending() && c.Text() != c.Seen() {
			t.Fatalf("client %d has nothing of its own, but %q, not %q", k, c.Text(), c.Seen())
		}
	}
}

// settle fails unless all have the same behind three rounds, and what they have is what the server had then.
func (w *world) settle(t *testing.T) {
	t.Helper()
	for range 3 {
		w.room.Quiet()
	}
	r := w.room
	for k := range w.n {
		c := of(t, r, k)
		if c.Pending() || c.Rev() != r.Rev() || c.Seen() != r.Text() || c.Text() != r.Text() {
			t.Fatalf("client %d: Pending %v, Rev %d of %d, %q, seen %q; the server's %q", k, c.Pending(), c.Rev(), r.Rev(), c.Text(), c.Seen(), r.Text())
		}
	}
	if r.Many() != 0 {
		t.Fatalf("%d are under way behind three rounds", r.Many())
	}
	for len(w.texts) <= r.Rev() { // all have seen the last one: those between are not asked for any more
		w.texts = append(w.texts, r.Text())
	}
}

func worldOf(t *testing.T, d *rand.Rand, s string) *world {
	t.Helper()
	var l []int
	for range 1 + d.Intn(api.MaxClients) {
		l = append(l, units[d.Intn(len(units))])
	}
	return &world{die: d, room: made(t, s, l...), n: len(l), texts: []string{s}}
}

// Whatever is lost, told twice, or comes late, in documents that are short, or almost full.
func TestAllSeeTheSame(t *testing.T) {
	d := rand.New(rand.NewSource(31))
	dropped, done := 0, 0
	for n := range 150 {
		s := []string{"", "-", "a" + two + three + four, strings.Repeat("a"+four, api.MaxDoc/5-d.Intn(20))}[n%4]
		w := worldOf(t, d, s)
		for range 3 {
			loss := []int{0, 50, 100}[d.Intn(3)]
			for range d.Intn(150) {
				w.step(t, loss)
			}
			w.settle(t)
		}
		for k := range w.n {
			dropped += of(t, w.room, k).Dropped()
		}
		done += w.room.Rev()
	}
	if dropped < 50 || done < 2000 {
		t.Errorf("%d were refused, %d done", dropped, done)
	}
}

// So many are sent that some have no room; at last the server does no more.
func TestAllSeeTheSameWithoutRoom(t *testing.T) {
	d := rand.New(rand.NewSource(37))
	lost, full := 0, 0
	for range 12 {
		w := worldOf(t, d, "a"+three)
		for range 3 {
			for range 600 {
				w.step(t, 5)
				send(t, w.room, d.Intn(w.n))
				w.check(t)
			}
			w.settle(t)
		}
		for range api.MaxLog {
			w.one(t)
		}
		w.settle(t)
		lost += w.room.Lost()
		if w.room.Rev() == api.MaxLog {
			full++
		}
	}
	if lost < 1000 || full < 6 {
		t.Errorf("%d were lost, %d did all that they do", lost, full)
	}
}

// The same things done make the same, however often.
func TestTheSameTwice(t *testing.T) {
	var got [2]string
	for i := range got {
		d := rand.New(rand.NewSource(41))
		w := worldOf(t, d, "a"+two)
		for range 200 {
			w.step(t, 30)
			for k := range w.n {
				got[i] += of(t, w.room, k).Text() + "\x00"
			}
		}
	}
	if got[0] != got[1] {
		t.Error("the second time it is another room")
	}
}

// size is how many of a unit a text has, by the library's own means.
func size(s string, unit int) int {
	switch unit {
	case api.Bytes:
		return len(s)
	case api.Halves:
		return len(utf16.Encode([]rune(s)))
	}
	return utf8.RuneCountInString(s)
}

// anyEdit is an operation over a client's document, of which no more than MaxDoc bytes come.
func anyEdit(d *rand.Rand, c *client.Client) api.Op {
	s, unit := c.Text(), c.Unit()
	var l api.Op
	free := api.MaxDoc - len(s)
	if free < 0 { // others put so much: as much goes
		at := -free
		for !utf8.RuneStart(s[at]) {
			at++
		}
		return api.Op{{Drop: size(s[:at], unit)}, {Keep: size(s[at:], unit)}}
	}
	for s != "" && len(l) < 12 {
		n := 1 + d.Intn(min(len(s), 9))
		for n < len(s) && !utf8.RuneStart(s[n]) {
			n++
		}
		switch put := []string{"x", "yz", two, three + "\n", four}[d.Intn(5)]; {
		case d.Intn(3) > 0:
			l = append(l, api.Part{Keep: size(s[:n], unit)})
		case d.Intn(2) > 0 && len(put) <= free:
			l = append(l, api.Part{Put: put})
			free -= len(put)
			continue
		default:
			l = append(l, api.Part{Drop: size(s[:n], unit)})
		}
		s = s[n:]
	}
	if s != "" {
		l = append(l, api.Part{Keep: size(s, unit)})
	}
	if free > 0 && d.Intn(2) == 0 {
		l = append(l, api.Part{Put: strings.Repeat("q", 1+d.Intn(min(free, 30)))})
	}
	return l
}
