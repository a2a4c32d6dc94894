package desk_test

// What the tests of this package share: lines, each beside what it is to be answered.

import (
	"strings"
	"testing"

	"rosetta/desk"
)

const (
	two   = "\u00E9"
	three = "\u20AC"
	four  = "\U0001F600"
)

// pairs are lines and their answers: a line, its answer, a line, its answer ..
type pairs []string

// lines is the lines alone, as one text.
func (p pairs) lines() string {
	var b strings.Builder
	for i := 0; i < len(p); i += 2 {
		b.WriteString(p[i] + "\n")
	}
	return b.String()
}

// wantAnswers fails unless the lines, one behind the other, are answered so.
func wantAnswers(t *testing.T, p pairs) {
	t.Helper()
	got := strings.Split(desk.Session(p.lines()), "\n")
	if len(got) != len(p)/2+1 || got[len(got)-1] != "" {
		t.Fatalf("%d answers to %d lines: %q", len(got)-1, len(p)/2, got)
	}
	for i := 0; i < len(p); i += 2 {
		if got[i/2] != p[i+1] {
			t.Errorf("line %d, %q: %q, not %q", i/2, p[i], got[i/2], p[i+1])
		}
	}
}

// session is the answers to the lines of a text.
func session(text string) []string {
	return strings.Split(strings.TrimSuffix(desk.Session(text), "\n"), "\n")
}

// wantSession fails unless a text is answered so.
func wantSession(t *testing.T, text, want string) {
	t.Helper()
	if got := desk.Session(text); got != want {
		t.Errorf("%.60q: %.200q, not %.200q", text, got, want)
	}
}
