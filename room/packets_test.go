package room_test

// Promises 9.2 and 9.3: Send, Deliver, Lose, Twice, Quiet.

import (
	"math"
	"strings"
	"testing"

	"rosetta/api"
	"rosetta/room"
	"rosetta/server"
)

// There is no packet below 0, nor from Many on: nothing is changed then.
func TestNoSuchPacket(t *testing.T) {
	r := made(t, "ab", 1)
	edit(t, r, 0, "k2 pc")
	for n := range 4 {
		for _, i := range []int{-1, n, n + 1, math.MaxInt, math.MinInt} {
			wantError(t, "Deliver", r.Deliver(i), api.ErrRange, -1)
			wantError(t, "Lose", r.Lose(i), api.ErrRange, -1)
			wantError(t, "Twice", r.Twice(i), api.ErrRange, -1)
		}
		wantRoom(t, "none such", r, 0, "ab", n, 0)
		wantClient(t, "none such", of(t, r, 0), state{text: "abc", seen: "ab", pending: true})
		send(t, r, 0)
	}
}

// The way there and back: an Ask, then what is told of it.
func TestAsk(t *testing.T) {
	r := made(t, "a"+four+"b", api.Halves, api.Bytes)
	edit(t, r, 0, "k1 d2 px k1")
	wantRoom(t, "edited", r, 0, "a"+four+"b", 0, 0)
	send(t, r, 0)
	wantRoom(t, "sent", r, 0, "a"+four+"b", 1, 0)
	wantClient(t, "sent", of(t, r, 0), state{text: "axb", seen: "a" + four + "b", pending: true})
	deliver(t, r, 0)
	wantRoom(t, "done", r, 1, "axb", 1, 0)
	wantClient(t, "done", of(t, r, 0), state{text: "axb", seen: "a" + four + "b", pending: true})
	deliver(t, r, 0)
	wantRoom(t, "told", r, 1, "axb", 0, 0)
	wantClient(t, "told", of(t, r, 0), state{text: "axb", seen: "axb", rev: 1})
	// The other one is told nothing that it did not ask for.
	wantClient(t, "told", of(t, r, 1), state{text: "a" + four + "b", seen: "a" + four + "b"})
}

// An Ask is what was on its way when it was sent, whatever becomes of that meanwhile.
func TestAskAsItWas(t *testing.T) {
	r := made(t, "ab", 1, 1)
	send(t, r, 1)
	edit(t, r, 1, "k2 pc")
	edit(t, r, 1, "d1 k2")
	send(t, r, 1) // Look Ask
	edit(t, r, 0, "px k2")
	send(t, r, 0)
	deliver(t, r, 2)
	lose(t, r, 2)
	deliver(t, r, 0)
	deliver(t, r, 1) // what was told of the Look
	wantClient(t, "turned", of(t, r, 1), state{text: "xbc", seen: "xab", rev: 1, pending: true})
	wantRoom(t, "not there yet", r, 1, "xab", 1, 0)
	send(t, r, 1)
	deliver(t, r, 0)
	wantRoom(t, "as it was", r, 2, "xabc", 3, 0) // the new Ask, and two that are told
	deliver(t, r, 0)
	wantRoom(t, "done already", r, 2, "xabc", 3, 0)
	deliver(t, r, 0)
	wantClient(t, "heard already", of(t, r, 1), state{text: "xbc", seen: "xab", rev: 1, pending: true})
	deliver(t, r, 0)
	wantClient(t, "what waited is on its way", of(t, r, 1), state{text: "xbc", seen: "xabc", rev: 2, pending: true})
	deliver(t, r, 0)
	wantClient(t, "told twice", of(t, r, 1), state{text: "xbc", seen: "xabc", rev: 2, pending: true})
}

// A Look is answered by all from its Rev on, in order, and by nothing else.
func TestLook(t *testing.T) {
	r := made(t, "", 1, 2)
	send(t, r, 1)
	deliver(t, r, 0)
	wantRoom(t, "nothing was done", r, 0, "", 0, 0)
	done(t, r, 0, "pa", "k1 pb", "k2 pc")
	send(t, r, 1)
	deliver(t, r, 0)
	wantRoom(t, "all is told", r, 3, "abc", 3, 0)
	for rev, seen := range []string{"a", "ab", "abc"} {
		deliver(t, r, 0)
		wantClient(t, "in order", of(t, r, 1), state{text: seen, seen: seen, rev: rev + 1})
	}
	done(t, r, 0, "k3 pd")
	send(t, r, 1)
	deliver(t, r, 0)
	wantRoom(t, "one is new", r, 4, "abcd", 1, 0)
	// It tells what was done ahead of its coming, not of its sending.
	send(t, r, 1)
	edit(t, r, 0, "k4 pe")
	send(t, r, 0)
	deliver(t, r, 2)
	deliver(t, r, 1)
	wantRoom(t, "two are new", r, 5, "abcde", 4, 0)
}

// What is told behind a gap, or once more, does nothing.
func TestToldOutOfOrder(t *testing.T) {
	r := made(t, "", 1, 2)
	done(t, r, 0, "pa", "k1 pb", "k2 pc")
	send(t, r, 1)
	deliver(t, r, 0)
	twice(t, r, 0)
	twice(t, r, 1) // 0 1 2 0 1
	c := of(t, r, 1)
	deliver(t, r, 1) // 0 2 0 1
	wantClient(t, "behind a gap", c, state{})
	deliver(t, r, 1) // 0 0 1
	wantClient(t, "behind a wider gap", c, state{})
	deliver(t, r, 1) // 0 1
	wantClient(t, "the first one", c, state{text: "a", seen: "a", rev: 1})
	deliver(t, r, 0) // 1
	wantClient(t, "once more", c, state{text: "a", seen: "a", rev: 1})
	deliver(t, r, 0)
	wantClient(t, "the next one", c, state{text: "ab", seen: "ab", rev: 2})
	wantRoom(t, "at last", r, 3, "abc", 0, 0)
}

// What is told is of no error, even where the client has one; nothing is changed then.
func TestToldThatCouldNotBe(t *testing.T) {
	r := made(t, "ab", 1, 2)
	done(t, r, 0, "k2 pc", "k3 pd")
	c := of(t, r, 1)
	wantError(t, "Take", c.Take(0, server.Entry{Client: 5, Id: 1, Op: op("d2")}), api.OK, -1)
	send(t, r, 1)
	deliver(t, r, 0)
	wantRoom(t, "told", r, 2, "abcd", 1, 0)
	deliver(t, r, 0)
	wantRoom(t, "spoilt", r, 2, "abcd", 0, 0)
	wantClient(t, "spoilt", c, state{rev: 1})
}

// One that has seen more than was done is told nothing, but what it asks for is refused.
func TestRevThatIsNone(t *testing.T) {
	r := made(t, "ab", 1)
	c := of(t, r, 0)
	wantError(t, "Take", c.Take(0, server.Entry{Client: 5, Id: 1, Op: op("k2")}), api.OK, -1)
	send(t, r, 0)
	deliver(t, r, 0)
	wantRoom(t, "Look", r, 0, "ab", 0, 0)
	edit(t, r, 0, "k2 pc")
	send(t, r, 0)
	deliver(t, r, 0)
	wantRoom(t, "Ask", r, 0, "ab", 1, 0)
	deliver(t, r, 0)
	wantClient(t, "refused", c, state{text: "ab", seen: "ab", rev: 1, dropped: 1})
}

// almost is a document that has room for one byte.
var almost = strings.Repeat("a", api.MaxDoc-1)

// fullRoom is a room whose document has no room, since client 0 put an x there; client 1, that heard nothing of it, asks to put a y, and has something that waits.
func fullRoom(t *testing.T) *room.Room {
	r := made(t, almost, 1, 1)
	edit(t, r, 1, "py k1999")
	edit(t, r, 1, "k2000")
	done(t, r, 0, "k1999 px", "k2000")
	send(t, r, 1)
	return r
}

// Refuse comes behind what is told; what was on its way, and what waited, is given up.
func TestRefuse(t *testing.T) {
	r := fullRoom(t)
	c := of(t, r, 1)
	deliver(t, r, 0)
	wantRoom(t, "refused", r, 2, almost+"x", 3, 0)
	deliver(t, r, 0)
	deliver(t, r, 0)
	wantClient(t, "told", c, state{text: "y" + almost + "x", seen: almost + "x", rev: 2, pending: true})
	deliver(t, r, 0)
	wantClient(t, "refused", c, state{text: almost + "x", seen: almost + "x", rev: 2, dropped: 1})
	wantRoom(t, "at last", r, 2, almost+"x", 0, 0)
	wantClient(t, "the other one", of(t, r, 0), state{text: almost + "x", seen: almost + "x", rev: 2})
}

// What was refused is refused again when it comes once more, though there is room by now; of what is older nothing is refused; an old Refuse does nothing to what is on its way.
func TestRefuseAgain(t *testing.T) {
	r := fullRoom(t)
	c := of(t, r, 1)
	for range 3 {
		twice(t, r, 0)
	}
	deliver(t, r, 0)
	for range 3 { // all that was sent by it
		lose(t, r, 3)
	}
	done0 := func(short string) {
		edit(t, r, 0, short)
		send(t, r, 0)
		deliver(t, r, r.Many()-1)
		deliver(t, r, r.Many()-1)
	}
	done0("d100 k1900")
	left := almost[100:] + "x"
	wantRoom(t, "there is room", r, 3, left, 3, 0)
	deliver(t, r, 0)
	wantRoom(t, "refused again", r, 3, left, 6, 0) // Ask Ask Told Told Told Refuse
	twice(t, r, 5)
	deliver(t, r, 5)
	wantClient(t, "given up", c, state{text: almost, seen: almost, dropped: 1})
	for range 3 {
		lose(t, r, 2)
	}
	edit(t, r, 1, "k1999 pz") // number 2
	send(t, r, 1)
	wantRoom(t, "the next one", r, 3, left, 4, 0) // Ask Ask Refuse Ask
	deliver(t, r, 2)
	wantClient(t, "an old Refuse", c, state{text: almost + "z", seen: almost, pending: true, dropped: 1})
	deliver(t, r, 0)
	wantRoom(t, "refused a third time", r, 3, left, 6, 0) // Ask Ask Told Told Told Refuse
	deliver(t, r, 1)
	wantRoom(t, "done", r, 4, left+"z", 9, 0) // Ask Told Told Told Refuse Told Told Told Told
	deliver(t, r, 0)
	wantRoom(t, "an old Ask", r, 4, left+"z", 12, 0) // all from its Rev on, and no Refuse
	for r.Many() > 0 {
		deliver(t, r, 0)
	}
	wantClient(t, "at last", c, state{text: left + "z", seen: left + "z", rev: 4, dropped: 1})
}

// When MaxLog operations were done all that is asked for is refused.
func TestRefuseBehindMaxLog(t *testing.T) {
	r := made(t, "", 3, 1)
	for range api.MaxLog {
		done(t, r, 0, "")
	}
	edit(t, r, 0, "px")
	send(t, r, 0)
	deliver(t, r, 0)
	wantRoom(t, "one more", r, api.MaxLog, "", 1, 0)
	deliver(t, r, 0)
	wantClient(t, "refused", of(t, r, 0), state{rev: api.MaxLog, dropped: 1})
	edit(t, r, 1, "px")
	send(t, r, 1)
	deliver(t, r, 0)
	wantRoom(t, "of another one", r, api.MaxLog, "", api.MaxLog+1, 0)
}

// What is lost is the one that was meant, what comes twice comes behind all others.
func TestLoseAndTwice(t *testing.T) {
	r := made(t, "-", 1, 2, 3)
	for k, short := range []string{"k1 pa", "k1 pb", "k1 pc"} {
		edit(t, r, k, short)
		send(t, r, k)
	}
	twice(t, r, 1) // a b c b
	lose(t, r, 1)  // a c b
	wantRoom(t, "nothing came", r, 0, "-", 3, 0)
	deliver(t, r, 1)
	lose(t, r, 2)
	wantRoom(t, "the last one's", r, 1, "-c", 2, 0)
	deliver(t, r, 1)
	lose(t, r, 2)
	lose(t, r, 1)
	wantRoom(t, "what came twice", r, 2, "-cb", 1, 0)
	lose(t, r, 0)
	wantRoom(t, "all is gone", r, 2, "-cb", 0, 0)
	wantClient(t, "whose was lost", of(t, r, 0), state{text: "-a", seen: "-", pending: true})
}

// Example 9 of the document.
func TestQuiet(t *testing.T) {
	r := made(t, "-", 1, 2)
	edit(t, r, 0, "px k1")
	edit(t, r, 1, "k1 py")
	r.Quiet()
	wantRoom(t, "one", r, 2, "x-y", 0, 0)
	wantClient(t, "one", of(t, r, 0), state{text: "x-", seen: "x-", rev: 1})
	wantClient(t, "one", of(t, r, 1), state{text: "x-y", seen: "x-y", rev: 2})
	r.Quiet()
	wantRoom(t, "two", r, 2, "x-y", 0, 0)
	for k := range 2 {
		wantClient(t, "two", of(t, r, k), state{text: "x-y", seen: "x-y", rev: 2})
	}
}

// What is under way comes ahead of what the clients send, the first one first; then the clients send, by their numbers.
func TestQuietInOrder(t *testing.T) {
	r := made(t, "-", 1, 1, 1, 1)
	for k, short := range []string{"k1 pa", "k1 pb", "k1 pc", "k1 pd"} {
		edit(t, r, k, short)
	}
	send(t, r, 3)
	send(t, r, 2)
	r.Quiet()
	wantRoom(t, "one", r, 4, "-dcab", 0, 0)
	wantClient(t, "0", of(t, r, 0), state{text: "-dca", seen: "-dca", rev: 3})
	wantClient(t, "1", of(t, r, 1), state{text: "-dcab", seen: "-dcab", rev: 4})
	// Those whose operations came first have looked, behind the others.
	wantClient(t, "2", of(t, r, 2), state{text: "-dcab", seen: "-dcab", rev: 4})
	wantClient(t, "3", of(t, r, 3), state{text: "-dcab", seen: "-dcab", rev: 4})
}

// A room of no clients is quiet.
func TestQuietOfNobody(t *testing.T) {
	r := made(t, "ab")
	r.Quiet()
	wantRoom(t, "nobody", r, 0, "ab", 0, 0)
}

// Behind two rounds one may not have heard what waited at another one: three are needed.
func TestThreeAreNeeded(t *testing.T) {
	r := made(t, "", 1, 1)
	edit(t, r, 1, "pa")
	edit(t, r, 1, "k1 pb")
	r.Quiet()
	wantClient(t, "what waited", of(t, r, 1), state{text: "ab", seen: "a", rev: 1, pending: true})
	r.Quiet()
	wantClient(t, "not heard", of(t, r, 0), state{text: "a", seen: "a", rev: 1})
	r.Quiet()
	wantClient(t, "heard", of(t, r, 0), state{text: "ab", seen: "ab", rev: 2})
}

// What a packet sends in a round comes behind all that are under way already, and is lost where there is no room: each of the Looks has room for the first one of the three that it asks for.
func TestQuietWithoutRoom(t *testing.T) {
	r := made(t, "", 1, 1)
	done(t, r, 0, "pa", "k1 pb", "k2 pc")
	for range api.MaxFlight {
		send(t, r, 1)
	}
	wantRoom(t, "full", r, 3, "abc", api.MaxFlight, 0)
	r.Quiet()
	wantRoom(t, "quiet", r, 3, "abc", 0, 2*api.MaxFlight)
	for k := range 2 {
		wantClient(t, "quiet", of(t, r, k), state{text: "abc", seen: "abc", rev: 3})
	}
}

// Client by client all that one sent has come ahead of the next one's sending: each finds room for all that was done.
func TestQuietHasRoomForAll(t *testing.T) {
	r := made(t, "", 1, 2, 3, 1, 2, 3)
	for range api.MaxLog {
		done(t, r, 0, "")
	}
	r.Quiet()
	wantRoom(t, "quiet", r, api.MaxLog, "", 0, 0)
	for k := range api.MaxClients {
		wantClient(t, "quiet", of(t, r, k), state{rev: api.MaxLog})
	}
}
