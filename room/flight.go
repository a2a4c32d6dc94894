package room

import (
	"slices"

	"rosetta/api"
)

// now is all that a room is: nothing where there is none, so that asking it panics nowhere.
func (r *Room) now() Room {
	if r == nil {
		return Room{}
	}
	return *r
}

// packet is one of those under way. ErrRange: there is none such.
func (r *Room) packet(i int) (Packet, error) {
	if i < 0 || i >= r.Many() {
		return Packet{}, api.ErrRange
	}
	return r.flight[i], nil
}

// send lets a packet be under way, behind all others, if there is room.
func (r *Room) send(p Packet) {
	if len(r.flight) >= api.MaxFlight {
		r.lost++
		return
	}
	r.flight = append(r.flight, p)
}

// drop lets a packet be under way no more.
func (r *Room) drop(i int) { r.flight = slices.Delete(r.flight, i, i+1) }

// settle brings all that is under way, the first one first, and what that brings about: what is told, or refused, brings about nothing more, so that it ends.
func (r *Room) settle() {
	for r.Many() > 0 {
		// There is a first one: there is no error.
		_ = r.Deliver(0)
	}
}

// comes is what a packet brings about.
func (r *Room) comes(p Packet) {
	switch p.Kind {
	case Ask:
		e := api.Tell(r.server.Take(p.Client, p.Id, p.Rev, p.Entry.Op))
		r.tell(p.Client, p.Rev)
		// ErrNone is of an old one: what became of that the client knows.
		if e != api.OK && e != api.ErrNone {
			r.send(Packet{Kind: Refuse, Client: p.Client, Id: p.Id})
		}
	case Look:
		r.tell(p.Client, p.Rev)
	case Told:
		// One that could not be is left where it is: the client asks again.
		_ = r.clients[p.Client].Take(p.Rev, p.Entry)
	case Refuse:
		r.clients[p.Client].Refused(p.Id)
	}
}

// tell sends a client what was done from an operation on, one behind the other: nothing, if there were not so many.
func (r *Room) tell(k, from int) {
	// Beside an error there is no entry.
	l, _ := r.server.Log(from)
	for i, e := range l {
		r.send(Packet{Kind: Told, Client: k, Rev: from + i, Entry: e})
	}
}
