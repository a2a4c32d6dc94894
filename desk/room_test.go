package desk_test

// Promise 10.1: any lines, against a room that is asked without words.

import (
	"fmt"
	"math/rand"
	"strings"
	"testing"

	"rosetta/api"
	"rosetta/desk"
	"rosetta/plain"
	"rosetta/room"
)

// told is what a line tells that does something: its word, or the error.
func told(word string, err error) string {
	if e, _ := plain.Place(err); e != api.OK {
		return fmt.Sprint("error ", int(e))
	}
	return word
}

// word is a text as it is told.
func word(s string) string {
	if s == "" {
		return "-"
	}
	return strings.NewReplacer(" ", "_", "\n", "/").Replace(s)
}

// anyPart is a part, as a word and as it is.
func anyPart(d *rand.Rand) (string, api.Part) {
	n := d.Intn(9) - 1
	switch d.Intn(5) {
	case 0, 1:
		return fmt.Sprint("k", n), api.Part{Keep: n}
	case 2:
		return fmt.Sprint("d", n), api.Part{Drop: n}
	}
	s := []string{"x", "y z", "\n", two, three + " \n", four, "", "-"}[d.Intn(8)]
	if s == "-" { // that is the empty text
		return "p-", api.Part{}
	}
	return "p" + word(s), api.Part{Put: s}
}

// step does one thing to a room: as a line, and what that tells.
func step(d *rand.Rand, r *room.Room) (line, want string) {
	k := d.Intn(5) - 1
	switch d.Intn(9) {
	case 0, 1, 2:
		c, err := r.Client(k)
		line := fmt.Sprint("edit ", k)
		var op api.Op
		for range d.Intn(4) {
			w, p := anyPart(d)
			line, op = line+" "+w, append(op, p)
		}
		if err == nil && d.Intn(2) == 0 && len(c.Text()) < 500 && c.Unit() == api.Bytes { // one that is over all of it
			line, op = fmt.Sprint("edit ", k, " pq"), api.Op{{Put: "q"}}
			if n := len(c.Text()); n > 0 {
				line, op = line+fmt.Sprint(" k", n), append(op, api.Part{Keep: n})
			}
		}
		if err != nil {
			return line, told("", err)
		}
		return line, told("edit", c.Edit(op))
	case 3, 4:
		return fmt.Sprint("send ", k), told("send", r.Send(k))
	case 5:
		i := d.Intn(r.Many()+2) - 1
		return fmt.Sprint("lose ", i), told("lose", r.Lose(i))
	case 6:
		i := d.Intn(r.Many()+2) - 1
		return fmt.Sprint("twice ", i), told("twice", r.Twice(i))
	case 7:
		i := d.Intn(r.Many()+2) - 1
		return fmt.Sprint("deliver ", i), told("deliver", r.Deliver(i))
	}
	if d.Intn(4) > 0 {
		return "many", fmt.Sprint(r.Many())
	}
	r.Quiet()
	return "quiet", "quiet"
}

// look asks a room all that may be asked.
func look(d *rand.Rand, r *room.Room) pairs {
	p := pairs{"server", fmt.Sprint(r.Rev(), " ", word(r.Text())), "many", fmt.Sprint(r.Many())}
	k := d.Intn(5) - 1
	c, err := r.Client(k)
	if err != nil {
		return append(p, fmt.Sprint("rev ", k), "error 2", fmt.Sprint("text ", k), "error 2", fmt.Sprint("seen ", k), "error 2")
	}
	return append(p,
		fmt.Sprint("rev ", k), fmt.Sprint(c.Rev(), c.Dropped(), c.Pending()),
		fmt.Sprint("text ", k), word(c.Text()),
		fmt.Sprint("seen ", k), word(c.Seen()))
}

func TestAgainstRoom(t *testing.T) {
	d := rand.New(rand.NewSource(53))
	done := 0
	for range 200 {
		r, err := room.New("", []int{1, 2, 3})
		if err != nil {
			t.Fatal(err)
		}
		p := pairs{}
		for range 150 {
			line, want := step(d, r)
			p = append(p, line, want)
			if d.Intn(4) == 0 {
				p = append(p, look(d, r)...)
			}
		}
		wantAnswers(t, p)
		done += r.Rev()
	}
	if done < 1000 {
		t.Errorf("no more than %d were done", done)
	}
}

// Whatever it is given, each line has one answer, and the same text has the same ones.
func TestAnyText(t *testing.T) {
	d := rand.New(rand.NewSource(59))
	bits := strings.Fields(verbs + " 0 1 2 3 -1 9223372036854775807 -9223372036854775808 99999999999999999999 k1 d1 pa p- k9223372036854775807 d9223372036854775807 - -- / _ a/b")
	bits = append(bits, " ", "  ", "\n", "\n", "\x00", "\xFF", four, "p"+four, "\r", "\t")
	for range 2000 {
		var b strings.Builder
		for range d.Intn(60) {
			b.WriteString(bits[d.Intn(len(bits))])
			b.WriteString([]string{" ", " ", " ", "\n", ""}[d.Intn(5)])
		}
		text := b.String()
		got := desk.Session(text)
		if want := strings.Count(strings.TrimSuffix(text, "\n"), "\n") + 1; strings.Count(got, "\n") != want || !strings.HasSuffix(got, "\n") {
			t.Fatalf("%q: %q", text, got)
		}
		if strings.Contains(got, "error -1") {
			t.Fatalf("%q: %q: what was thrown is no error of ours", text, got)
		}
		if again := desk.Session(text); again != got {
			t.Fatalf("%q: %q, then %q", text, got, again)
		}
	}
}
