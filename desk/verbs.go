package desk

import (
	"maps"
	"slices"
	"strconv"
	"strings"

	"rosetta/api"
	"rosetta/client"
	"rosetta/pos"
	"rosetta/room"
	"rosetta/rope"
	"rosetta/utf"
)

// verb is what a line does, by all of its words, the first one, too: it tells the answer, or throws an error.
type verb struct {
	behind int  // how many words stand behind the first one
	more   bool // more may stand there
	do     func(words []string) string
}

// fits says whether so many words may stand behind the first one.
func (v verb) fits(n int) bool { return n == v.behind || n > v.behind && v.more }

func (s *session) table() map[string]verb {
	return map[string]verb{
		"begin":   {1, true, s.begin},
		"edit":    {1, true, s.edit},
		"send":    {1, false, s.send},
		"deliver": {1, false, s.deliver},
		"lose":    {1, false, s.lose},
		"twice":   {1, false, s.twice},
		"quiet":   {0, false, s.quiet},
		"many":    {0, false, s.many},
		"rev":     {1, false, s.rev},
		"text":    {1, false, s.text},
		"seen":    {1, false, s.seen},
		"server":  {0, false, s.server},
		"count":   {1, false, s.count},
		"spot":    {3, false, s.spot},
		"place":   {4, false, s.place},
		"help":    {0, false, s.help},
	}
}

// begin leaves the room as it is, if there is an error.
func (s *session) begin(words []string) string {
	r, err := room.New(textOf(words[1]), numbersOf(words[2:]))
	must(err)
	s.room = r
	return words[0]
}

func (s *session) edit(words []string) string {
	var op api.Op
	for _, w := range words[2:] {
		op = append(op, partOf(w))
	}
	must(s.client(words[1]).Edit(op))
	return words[0]
}

func (s *session) send(words []string) string {
	must(s.room.Send(numberOf(words[1])))
	return words[0]
}

func (s *session) deliver(words []string) string {
	must(s.room.Deliver(numberOf(words[1])))
	return words[0]
}

func (s *session) lose(words []string) string {
	must(s.room.Lose(numberOf(words[1])))
	return words[0]
}

func (s *session) twice(words []string) string {
	must(s.room.Twice(numberOf(words[1])))
	return words[0]
}

func (s *session) quiet(words []string) string {
	s.room.Quiet()
	return words[0]
}

func (s *session) many([]string) string { return tellNumbers(s.room.Many()) }

func (s *session) rev(words []string) string {
	c := s.client(words[1])
	return tellNumbers(c.Rev(), c.Dropped()) + " " + strconv.FormatBool(c.Pending())
}

func (s *session) text(words []string) string { return tellText(s.client(words[1]).Text()) }

func (s *session) seen(words []string) string { return tellText(s.client(words[1]).Seen()) }

func (s *session) server([]string) string {
	return tellNumbers(s.room.Rev()) + " " + tellText(s.room.Text())
}

func (s *session) count(words []string) string {
	c, err := utf.Count(textOf(words[1]))
	must(err)
	return tellNumbers(c.Bytes, c.Halves, c.Runes, c.Lines)
}

func (s *session) spot(words []string) string {
	n := numbersOf(words[2:])
	spot, err := pos.Spot(document(words[1]), n[0], n[1])
	must(err)
	return tellNumbers(spot.Line, spot.Column)
}

func (s *session) place(words []string) string {
	n := numbersOf(words[2:])
	at, err := pos.Place(document(words[1]), n[0], api.Spot{Line: n[1], Column: n[2]})
	must(err)
	return tellNumbers(at)
}

func (s *session) help([]string) string {
	return strings.Join(slices.Sorted(maps.Keys(s.verbs)), " ")
}

// client is the one that a word tells. It throws ErrForm, ErrRange.
func (s *session) client(word string) *client.Client {
	c, err := s.room.Client(numberOf(word))
	must(err)
	return c
}

// document is the one that a word tells. It throws rope.New's errors.
func document(word string) *rope.Rope {
	r, err := rope.New(textOf(word))
	must(err)
	return r
}
