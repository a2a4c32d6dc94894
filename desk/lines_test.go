package desk_test

// Promise 10.1: lines, words, numbers and texts, and what is wrong with them.

import (
	"strings"
	"testing"

	"rosetta/api"
)

const verbs = "begin count deliver edit help lose many place quiet rev seen send server spot text twice"

// A text is cut at line feeds; one at its end is left out, and no more than that.
func TestLines(t *testing.T) {
	for text, want := range map[string]string{
		"":               "ok\n",
		"\n":             "ok\n",
		"\n\n":           "ok\nok\n",
		"\n\n\n":         "ok\nok\nok\n",
		"many":           "0\n",
		"many\n":         "0\n",
		"many\n\n":       "0\nok\n",
		"\nmany":         "ok\n0\n",
		"many\n\nx":      "0\nok\nerror 3\n",
		"many\nmany\n":   "0\n0\n",
		"many\r\nmany\n": "error 3\n0\n",
		"many\x00":       "error 3\n",
	} {
		wantSession(t, text, want)
	}
}

// Words have blanks between, at both ends, too; nothing else is one.
func TestWords(t *testing.T) {
	wantAnswers(t, pairs{
		"", "ok",
		" ", "ok",
		"     ", "ok",
		"   many", "0",
		"many   ", "0",
		"  text    0  ", "-",
		" edit  0   pa    pb ", "edit",
		"text 0", "ab",
		"\t", "error 3",
		"many\t", "error 3",
		"text\t0", "error 3",
		"many\u00A0", "error 3",
		"count a\tb", "3 3 3 0",
		"count \u00A0", "2 1 1 0",
		"\xFF", "error 3",
	})
}

// The first word is one of these, letter by letter.
func TestFirstWord(t *testing.T) {
	for _, w := range []string{"x", "-", "0", "ok", "error", "Many", "MANY", "man", "manyy", "many\xFF", "_many", "-1"} {
		wantAnswers(t, pairs{w, "error 3", w + " 0", "error 3"})
	}
}

// As many words stand behind the first one as are told: those are read only then.
func TestHowManyWords(t *testing.T) {
	for _, c := range []struct {
		verb  string
		words []string // of which there is no error, if there are so many
		least int
		more  bool
	}{
		{"begin", []string{"a", "1", "2", "3", "1", "2", "3"}, 1, true},
		{"edit", []string{"0", "pa", "pb", "pc"}, 1, true},
		{"send", []string{"0", "0", "0"}, 1, false},
		{"deliver", []string{"0", "0", "0"}, 1, false},
		{"lose", []string{"0", "0", "0"}, 1, false},
		{"twice", []string{"0", "0", "0"}, 1, false},
		{"quiet", []string{"0", "0", "0"}, 0, false},
		{"many", []string{"0", "0", "0"}, 0, false},
		{"rev", []string{"0", "0", "0"}, 1, false},
		{"text", []string{"0", "0", "0"}, 1, false},
		{"seen", []string{"0", "0", "0"}, 1, false},
		{"server", []string{"0", "0", "0"}, 0, false},
		{"count", []string{"a", "0", "0"}, 1, false},
		{"spot", []string{"a", "1", "1", "0", "0"}, 3, false},
		{"place", []string{"a", "1", "0", "1", "0", "0"}, 4, false},
		{"help", []string{"help", "0", "0"}, 0, false},
	} {
		for n := range len(c.words) + 1 {
			line := strings.Join(append([]string{c.verb}, c.words[:n]...), " ")
			got := session("send 0\n" + line)[1]
			if fits := n == c.least || c.more && n > c.least; fits == strings.HasPrefix(got, "error") || !fits && got != "error 3" {
				t.Errorf("%q: %q", line, got)
			}
		}
	}
}

func TestNumbers(t *testing.T) {
	for word, want := range map[string]string{
		"0":                    "many",
		"1":                    "error 2",
		"-1":                   "error 2",
		"10":                   "error 2",
		"9223372036854775807":  "error 2",
		"-9223372036854775808": "error 2",
		"9223372036854775808":  "error 3",
		"-9223372036854775809": "error 3",
		"99999999999999999999": "error 3",
		"18446744073709551616": "error 3", // 0, if it were cut to 64 bits
		"00":                   "error 3",
		"01":                   "error 3",
		"-01":                  "error 3",
		"-0":                   "error 3",
		"+0":                   "error 3",
		"+1":                   "error 3",
		"-":                    "error 3",
		"--1":                  "error 3",
		"0x0":                  "error 3",
		"0_0":                  "error 3",
		"1_0":                  "error 3",
		"1e1":                  "error 3",
		"0.0":                  "error 3",
		"0a":                   "error 3",
		"a":                    "error 3",
		"\u0660":               "error 3", // a nought of another script
		"0\xFF":                "error 3",
	} {
		for _, verb := range []string{"deliver", "lose", "twice"} {
			done := strings.Replace(want, "many", verb, 1)
			wantAnswers(t, pairs{"send 0", "send", verb + " " + word, done})
		}
		switch {
		case word == "1":
			want = "begin"
		case want != "error 3":
			want = "error 1" // no unit
		}
		wantAnswers(t, pairs{"begin a " + word, want})
	}
}

// All that stands behind is read from the left ahead of what the chapters say.
func TestReadAheadOfWhatTheChaptersSay(t *testing.T) {
	wantAnswers(t, pairs{
		"begin \xFF x", "error 3",
		"begin a 9 x", "error 3",
		"begin a 1 2 3 1 2 3 1 x", "error 3",
		"begin a 1 2 3 1 2 3 9", "error 4",
		"edit 9 kx", "error 3",
		"edit 9 pa q", "error 3",
		"edit 9 k9 k", "error 3",
		"edit x", "error 3",
		"edit 9", "error 2",
		"spot \xFF 1 x", "error 3",
		"spot ab 9 x", "error 3",
		"spot ab x 9", "error 3",
		"spot ab 9 9", "error 1",
		"place ab 9 0 x", "error 3",
		"place ab 9 x 0", "error 3",
		"place ab x 0 0", "error 3",
		"place ab 9 9 9", "error 1",
	})
	long := strings.Repeat("a", api.MaxHeld+1)
	wantAnswers(t, pairs{"spot " + long + " 1 x", "error 3", "place " + long + " x 0 0", "error 3"})
	// A document is made ahead of what is asked of it.
	wantAnswers(t, pairs{"spot " + long + " 9 0", "error 12", "place " + long + " 9 0 0", "error 12"})
	wantAnswers(t, pairs{"spot " + long[1:] + " 1 8000", "0 8000", "spot a\xFF 9 0", "error 3", "place a\xFF 9 0 0", "error 3"})
}

// A text in a word, there and back.
func TestTexts(t *testing.T) {
	for _, c := range []struct{ word, counts, back string }{
		{"-", "0 0 0 0", "-"},
		{"--", "2 2 2 0", "--"},
		{"-a", "2 2 2 0", "-a"},
		{"a-", "2 2 2 0", "a-"},
		{"_", "1 1 1 0", "_"},
		{"/", "1 1 1 1", "/"},
		{"_/_", "3 3 3 1", "_/_"},
		{"-/", "2 2 2 1", "-/"},
		{"a_b//c", "6 6 6 2", "a_b//c"},
		{"a" + four + "/", "6 4 3 1", "a" + four + "/"},
		{two + three + four, "9 4 3 0", two + three + four},
		{"\uFFFD/", "4 2 2 1", "\uFFFD/"},
		{"\\n\t\r\x00", "5 5 5 0", "\\n\t\r\x00"},
		{"ok", "2 2 2 0", "ok"},
	} {
		wantAnswers(t, pairs{
			"count " + c.word, c.counts,
			"begin " + c.word + " 1", "begin",
			"server", "0 " + c.back,
			"text 0", c.back,
			"seen 0", c.back,
			"begin - 1", "begin",
		})
		if c.word == "-" {
			continue
		}
		wantAnswers(t, pairs{"edit 0 p" + c.word, "edit", "text 0", c.back, "seen 0", "-"})
	}
}

// Bytes that are no text are told as such, and are not made one.
func TestNoText(t *testing.T) {
	for _, w := range []string{"\xFF", "a\xFF", "_\x80/", "\xE2\x82", four + "\xF0\x9F", "\xED\xA0\x80", "\xC0\x80", "-\xFF"} {
		wantAnswers(t, pairs{
			"count " + w, "error 3",
			"begin " + w, "error 3",
			"edit 0 p" + w, "error 3",
			"spot " + w + " 1 0", "error 3",
			"place " + w + " 1 0 0", "error 3",
			"text 0", "-",
		})
	}
}

// A text of MaxText bytes is answered line by line, one byte more is too much, whatever it is.
func TestMaxText(t *testing.T) {
	most := strings.Repeat("x", api.MaxText)
	wantSession(t, most, "error 3\n")
	wantSession(t, most+"x", "error 4\n")
	wantSession(t, most[1:]+"\n", "error 3\n")
	wantSession(t, most+"\n", "error 4\n")
	wantSession(t, strings.Repeat("\n", api.MaxText), strings.Repeat("ok\n", api.MaxText))
	wantSession(t, strings.Repeat("\n", api.MaxText+1), "error 4\n")
	wantSession(t, strings.Repeat(four, api.MaxText/4), "error 3\n") // bytes, not letters
	wantSession(t, strings.Repeat(four, api.MaxText/4+1), "error 4\n")
	wantSession(t, "many"+strings.Repeat(" ", api.MaxText-4), "0\n")
	wantSession(t, "many"+strings.Repeat(" ", api.MaxText-3), "error 4\n")
}

func TestHelp(t *testing.T) {
	wantAnswers(t, pairs{"help", verbs, "help x", "error 3", "begin - 1", "begin", "help", verbs})
}
