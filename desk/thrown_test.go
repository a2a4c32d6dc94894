package desk

// What is thrown on the way to an answer, asked from inside: no line that is handed in brings about all of it.

import (
	"strconv"
	"testing"

	"rosetta/api"
)

func TestThrown(t *testing.T) {
	var none []int
	for _, c := range []struct {
		what   string
		thrown func(words []string) string
		want   string
	}{
		{"nothing", func([]string) string { return "told" }, "told"},
		{"an error of ours", func([]string) string { panic(api.ErrCycle) }, "error 11"},
		{"one that has a place", func([]string) string { must(&api.At{Err: api.ErrForm, Place: 7}); return "told" }, "error 3"},
		{"no error", func([]string) string { must(nil); return "told" }, "told"},
		{"a text", func([]string) string { panic("x") }, "error -1"},
		{"a fault of the program", func(words []string) string { return strconv.Itoa(none[len(words)]) }, "error -1"},
	} {
		s := newSession()
		s.verbs["x"] = verb{do: c.thrown}
		if got := s.answer("x"); got != c.want {
			t.Errorf("%s: %q, not %q", c.what, got, c.want)
		}
		if got := s.answer("many"); got != "0" {
			t.Errorf("behind %s: %q", c.what, got)
		}
	}
}
