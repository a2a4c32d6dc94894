package room_test

// Promise 9.1: New, Client, Text, Rev, Many, Lost.

import (
	"math"
	"strings"
	"testing"

	"rosetta/api"
	"rosetta/room"
)

func TestNew(t *testing.T) {
	for _, s := range []string{"", "a", "\n", "\x00", "a" + two + three + four + "\nb", strings.Repeat("a", api.MaxDoc), strings.Repeat(four, api.MaxDoc/4)} {
		made(t, s)
		made(t, s, units...)
		made(t, s, api.Runes, api.Bytes, api.Runes, api.Halves, api.Halves, api.Bytes)
		for _, unit := range units {
			made(t, s, unit)
		}
	}
}

func TestNewErrors(t *testing.T) {
	full := strings.Repeat("a", api.MaxDoc)
	many := make([]int, api.MaxClients+1) // none of them is a unit, either
	for _, c := range []struct {
		what  string
		s     string
		units []int
		want  api.Errno
		at    int
	}{
		{"no text", "a" + four + "\x80b\xFF", units, api.ErrForm, 5},
		{"no text ahead of too many clients", "ab\xFF", many, api.ErrForm, 2},
		{"no text ahead of too much", full + "\xFF", nil, api.ErrForm, api.MaxDoc},
		{"too much", full + "a", units, api.ErrFull, -1},
		{"too much ahead of too many clients", full + "a", many, api.ErrFull, -1},
		{"too much ahead of no unit", full + "a", []int{0}, api.ErrFull, -1},
		{"too many clients", "a", []int{1, 2, 3, 1, 2, 3, 1}, api.ErrLimit, -1},
		{"too many clients ahead of no unit", "a", many, api.ErrLimit, -1},
		{"no unit", "a", []int{0}, api.ErrArg, -1},
		{"no unit, behind the last one", "a", []int{4}, api.ErrArg, -1},
		{"no unit, below 0", "", []int{-1, 1}, api.ErrArg, -1},
		{"no unit, further on", "a", []int{1, 2, 3, 1, 2, math.MaxInt}, api.ErrArg, -1},
	} {
		r, err := room.New(c.s, c.units)
		wantError(t, c.what, err, c.want, c.at)
		if r != nil {
			t.Errorf("%s: a room beside an error", c.what)
		}
	}
}

// The list of units is not kept, nor written into, nor asked behind its length.
func TestUnitsAreTheCallers(t *testing.T) {
	l := []int{api.Runes, api.Halves, 77}
	r, err := room.New("a", l[:2])
	wantError(t, "New", err, api.OK, -1)
	if l[0] != api.Runes || l[1] != api.Halves || l[2] != 77 {
		t.Errorf("the units became %v", l)
	}
	l[0], l[1] = 0, api.Bytes
	if a, b := of(t, r, 0).Unit(), of(t, r, 1).Unit(); a != api.Runes || b != api.Halves {
		t.Errorf("clients count in %d, %d", a, b)
	}
	_, err = r.Client(2)
	wantError(t, "Client", err, api.ErrRange, -1)
}

func TestClient(t *testing.T) {
	for n := range api.MaxClients + 1 {
		r := made(t, "ab", []int{1, 2, 3, 3, 2, 1}[:n]...)
		for k := range n {
			edit(t, r, k, "k2 p"+string(rune('0'+k)))
		}
		// A client is the same one, however often it is asked for.
		for k := range n {
			wantClient(t, "edited", of(t, r, k), state{text: "ab" + string(rune('0'+k)), seen: "ab", pending: true})
		}
		wantRoom(t, "edited", r, 0, "ab", 0, 0)
		for _, k := range []int{-1, n, n + 1, math.MaxInt, math.MinInt} {
			c, err := r.Client(k)
			wantError(t, "Client", err, api.ErrRange, -1)
			if c != nil {
				t.Errorf("client %d of %d: one beside an error", k, n)
			}
			wantError(t, "Send", r.Send(k), api.ErrRange, -1)
		}
		wantRoom(t, "none such", r, 0, "ab", 0, 0)
	}
}

// Each client is who its number is: what is another one's it does not take for its own, though both number theirs alike.
func TestWhoTheyAre(t *testing.T) {
	r := made(t, "-", 1, 1, 1)
	edit(t, r, 1, "k1 pb")
	edit(t, r, 2, "pc k1")
	send(t, r, 1)
	deliver(t, r, 0)
	lose(t, r, 0)
	send(t, r, 2)
	deliver(t, r, 0) // both are done, and told to client 2
	wantRoom(t, "both", r, 2, "c-b", 2, 0)
	deliver(t, r, 0)
	wantClient(t, "the other one's", of(t, r, 2), state{text: "c-b", seen: "-b", rev: 1, pending: true})
	deliver(t, r, 0)
	wantClient(t, "its own", of(t, r, 2), state{text: "c-b", seen: "c-b", rev: 2})
	done(t, r, 0, "k1 pa")
	wantClient(t, "of none of both", of(t, r, 0), state{text: "c-ba", seen: "c-ba", rev: 3})
}

// One more than may be under way is lost, whatever sends it; what comes, or is lost, makes room for one.
func TestMaxFlight(t *testing.T) {
	r := made(t, "ab", 1, 2)
	for n := range api.MaxFlight {
		wantRoom(t, "filling", r, 0, "ab", n, 0)
		send(t, r, n%2)
	}
	wantRoom(t, "full", r, 0, "ab", api.MaxFlight, 0)
	send(t, r, 0)
	wantRoom(t, "sent", r, 0, "ab", api.MaxFlight, 1)
	twice(t, r, 7)
	wantRoom(t, "twice", r, 0, "ab", api.MaxFlight, 2)
	lose(t, r, api.MaxFlight-1)
	wantRoom(t, "lost", r, 0, "ab", api.MaxFlight-1, 2)
	edit(t, r, 0, "k2 pc")
	send(t, r, 0)
	wantRoom(t, "room for one", r, 0, "ab", api.MaxFlight, 2)
	deliver(t, r, api.MaxFlight-1)
	wantRoom(t, "one came and one is told", r, 1, "abc", api.MaxFlight, 2)
	deliver(t, r, api.MaxFlight-1)
	wantClient(t, "the last one is what was told", of(t, r, 0), state{text: "abc", seen: "abc", rev: 1})
	wantRoom(t, "told", r, 1, "abc", api.MaxFlight-1, 2)
}

// What an Ask sends has room as far as it goes: what refuses it stands behind all that is told.
func TestMaxFlightOfWhatIsSent(t *testing.T) {
	almost := strings.Repeat("a", api.MaxDoc-1)
	for free := range 6 {
		r := made(t, almost, api.Runes, api.Bytes)
		done(t, r, 0, "k1999 px", "k2000", "k2000")
		for range api.MaxFlight - free - 1 {
			send(t, r, 0)
		}
		edit(t, r, 1, "py k1999")
		send(t, r, 1)
		wantRoom(t, "ahead", r, 3, almost+"x", api.MaxFlight-free, 0)
		deliver(t, r, api.MaxFlight-free-1)
		sent := min(free+1, 4)
		wantRoom(t, "what it sent", r, 3, almost+"x", api.MaxFlight-free-1+sent, 4-sent)
		for r.Many() > 0 {
			deliver(t, r, 0)
		}
		want := []state{
			{text: "y" + almost + "x", seen: almost + "x", rev: 1, pending: true},
			{text: "y" + almost + "x", seen: almost + "x", rev: 2, pending: true},
			{text: "y" + almost + "x", seen: almost + "x", rev: 3, pending: true},
			{text: almost + "x", seen: almost + "x", rev: 3, dropped: 1},
		}
		wantClient(t, "to whom it was sent", of(t, r, 1), want[sent-1])
		wantRoom(t, "at last", r, 3, almost+"x", 0, 4-sent)
	}
}

// A room that New did not make has nothing, and asking it panics nowhere.
func TestNoRoom(t *testing.T) {
	for _, r := range []*room.Room{nil, {}} {
		wantError(t, "Send", r.Send(0), api.ErrRange, -1)
		wantError(t, "Deliver", r.Deliver(0), api.ErrRange, -1)
		wantError(t, "Lose", r.Lose(0), api.ErrRange, -1)
		wantError(t, "Twice", r.Twice(0), api.ErrRange, -1)
		_, err := r.Client(0)
		wantError(t, "Client", err, api.ErrRange, -1)
		r.Quiet()
		wantRoom(t, "none", r, 0, "", 0, 0)
	}
}
