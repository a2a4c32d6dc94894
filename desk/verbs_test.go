package desk_test

// Promise 10.1: what the lines do, one by one.

import (
	"strings"
	"testing"

	"rosetta/api"
)

// The room at first: of no text, and of clients that count in bytes, halves and runes.
func TestAtFirst(t *testing.T) {
	p := pairs{"many", "0", "server", "0 -"}
	for _, k := range []string{"0", "1", "2"} {
		p = append(p, "text "+k, "-", "seen "+k, "-", "rev "+k, "0 0 false")
	}
	for _, k := range []string{"-1", "3", "9"} {
		for _, verb := range []string{"text", "seen", "rev", "send", "edit"} {
			p = append(p, verb+" "+k, "error 2")
		}
	}
	wantAnswers(t, p)
	for k, size := range []string{"4", "2", "1"} {
		who := string(rune('0' + k))
		wantAnswers(t, pairs{
			"edit " + who + " p" + four, "edit",
			"edit " + who + " d" + size + " px", "edit",
			"text " + who, "x",
		})
	}
}

// One session has nothing of another one.
func TestEachSessionIsNew(t *testing.T) {
	for range 2 {
		wantAnswers(t, pairs{"server", "0 -", "edit 0 pa", "edit", "quiet", "quiet", "server", "1 a"})
	}
}

// The document's sixth and ninth examples.
func TestExamples(t *testing.T) {
	wantAnswers(t, pairs{
		"begin a" + four + "b 2", "begin",
		"edit 0 k1 d2 k1", "edit",
		"text 0", "ab",
		"begin - 1 2 3", "begin",
		"begin -- 1 2 3", "begin",
		"edit 0 px k2", "edit",
		"edit 1 k2 py", "edit",
		"quiet", "quiet",
		"quiet", "quiet",
		"server", "2 x--y",
		"text 0", "x--y",
		"text 1", "x--y",
		"text 2", "x--y",
		"rev 2", "2 0 false",
		"many", "0",
	})
}

// What is asked, is under way, comes, is told.
func TestPackets(t *testing.T) {
	wantAnswers(t, pairs{
		"edit 0 pa_b/", "edit",
		"rev 0", "0 0 true",
		"seen 0", "-",
		"send 0", "send",
		"many", "1",
		"twice 0", "twice",
		"many", "2",
		"deliver 1", "deliver",
		"server", "1 a_b/",
		"many", "2",
		"lose 0", "lose",
		"many", "1",
		"deliver 0", "deliver",
		"many", "0",
		"rev 0", "1 0 false",
		"seen 0", "a_b/",
		"text 1", "-",
		"send 1", "send",
		"deliver 0", "deliver",
		"deliver 0", "deliver",
		"deliver 0", "error 2",
		"text 1", "a_b/",
		"rev 1", "1 0 false",
		"text 2", "-",
		"quiet", "quiet",
		"text 2", "a_b/",
	})
}

// No such packet: nothing is changed.
func TestNoSuchPacket(t *testing.T) {
	for _, verb := range []string{"deliver", "lose", "twice"} {
		wantAnswers(t, pairs{
			verb + " 0", "error 2",
			"send 0", "send",
			verb + " 1", "error 2",
			verb + " -1", "error 2",
			"many", "1",
		})
	}
}

// More than may be under way are lost: the word is told all the same.
func TestMaxFlight(t *testing.T) {
	p := pairs{}
	for range api.MaxFlight + 3 {
		p = append(p, "send 1", "send")
	}
	wantAnswers(t, append(p, "twice 0", "twice", "many", "400", "quiet", "quiet", "many", "0"))
}

// What is refused is dropped.
func TestRefused(t *testing.T) {
	almost := strings.Repeat("a", api.MaxDoc-1)
	wantAnswers(t, pairs{
		"begin " + almost + " 1 3", "begin",
		"edit 0 px k1999", "edit",
		"edit 1 py k1999", "edit",
		"send 0", "send",
		"send 1", "send",
		"deliver 0", "deliver",
		"quiet", "quiet",
		"rev 1", "1 1 false",
		"rev 0", "1 0 false",
		"text 1", "x" + almost,
		"server", "1 x" + almost,
	})
}

// Parts: a letter, and a number or a text.
func TestParts(t *testing.T) {
	for word, want := range map[string]string{
		"k3":                   "edit",
		"k2":                   "error 2",
		"k4":                   "error 2",
		"k9223372036854775807": "error 2",
		"d3":                   "edit",
		"k0":                   "error 1",
		"d0":                   "error 1",
		"k-1":                  "error 1",
		"d-3":                  "error 1",
		"p-":                   "error 1", // nothing is put
		"p--":                  "error 2", // something is, but nothing is kept or dropped
		"p_":                   "error 2",
		"p\xFF":                "error 3",
		"p":                    "error 3",
		"k":                    "error 3",
		"d":                    "error 3",
		"kx":                   "error 3",
		"k03":                  "error 3",
		"k+3":                  "error 3",
		"k-0":                  "error 3",
		"d9223372036854775808": "error 3",
		"K3":                   "error 3",
		"q1":                   "error 3",
		"3":                    "error 3",
		"3k":                   "error 3",
		"-":                    "error 3",
		"\xFF":                 "error 3",
		"\xFFk3":               "error 3",
		four + "3":             "error 3",
	} {
		p := pairs{"begin abc 1", "begin", "edit 0 " + word, want}
		switch {
		case want != "edit":
			p = append(p, "text 0", "abc", "rev 0", "0 0 false")
		case word[0] == 'd':
			p = append(p, "text 0", "-", "rev 0", "0 0 true")
		}
		wantAnswers(t, p)
	}
	wantAnswers(t, pairs{
		"edit 0", "edit", // nothing, over nothing
		"rev 0", "0 0 true",
		"begin a" + four + "c 2", "begin",
		"edit 0", "error 2",
		"edit 0 k2 d2", "error 10", // within a letter
		"edit 0 k1 d2 p/_ pz k1", "edit",
		"text 0", "a/_zc",
	})
}

func TestEditErrors(t *testing.T) {
	parts := strings.Repeat(" px", api.MaxParts)
	put := strings.Repeat("a", api.MaxPut)
	wantAnswers(t, pairs{
		"edit 0" + parts + " px", "error 4",
		"edit 9" + parts + " px", "error 2", // there is no client ahead of what it would say
		"edit 0" + parts, "edit",
		"edit 1 pa" + put, "error 4",
		"edit 1 p" + put, "edit",
		"text 1", put,
		"begin " + strings.Repeat(put, 10) + " 1", "begin",
		"edit 0 k2000 px", "error 12",
		"rev 0", "0 0 false",
	})
}

func TestBegin(t *testing.T) {
	full := strings.Repeat("a", api.MaxDoc)
	wantAnswers(t, pairs{
		"edit 0 pa", "edit",
		"send 0", "send",
		// Whatever is wrong, the room is as it was.
		"begin", "error 3",
		"begin b 0", "error 1",
		"begin b 1 4", "error 1",
		"begin b 1 x", "error 3",
		"begin b 1 2 3 1 2 3 1", "error 4",
		"begin " + full + "a 1", "error 12",
		"begin " + full + "a x", "error 3",
		"begin \xFF 1", "error 3",
		"many", "1",
		"text 0", "a",
		"rev 2", "0 0 false",
		"begin b 3", "begin",
		"many", "0",
		"server", "0 b",
		"text 0", "b",
		"rev 0", "0 0 false",
		"text 1", "error 2",
		"begin " + full + " 1 1 2 2 3 3", "begin",
		"text 5", full,
		"text 6", "error 2",
		"begin c", "begin",
		"text 0", "error 2",
		"quiet", "quiet",
		"server", "0 c",
	})
}

// A spot, a place: a document of its own, not the room's.
func TestSpotAndPlace(t *testing.T) {
	s := "a" + two + "/b" + four + "c//d"
	wantAnswers(t, pairs{
		"spot " + s + " 1 0", "0 0",
		"spot " + s + " 1 3", "0 3",
		"spot " + s + " 2 2", "0 2",
		"spot " + s + " 1 4", "1 0",
		"spot " + s + " 1 9", "1 5",
		"spot " + s + " 2 6", "1 3",
		"spot " + s + " 3 5", "1 2",
		"spot " + s + " 3 7", "2 0",
		"spot " + s + " 3 9", "3 1",
		"spot " + s + " 1 2", "error 10",
		"spot " + s + " 2 5", "error 10",
		"spot " + s + " 3 10", "error 2",
		"spot " + s + " 1 -1", "error 2",
		"spot " + s + " 4 0", "error 1",
		"spot - 1 0", "0 0",
		"spot - 1 1", "error 2",
		"spot / 3 1", "1 0",
		"place " + s + " 1 0 3", "3",
		"place " + s + " 1 1 5", "9",
		"place " + s + " 2 1 3", "6",
		"place " + s + " 3 1 2", "5",
		"place " + s + " 3 2 0", "7",
		"place " + s + " 3 3 1", "9",
		"place " + s + " 1 0 4", "error 2",
		"place " + s + " 3 2 1", "error 2",
		"place " + s + " 3 4 0", "error 2",
		"place " + s + " 3 -1 0", "error 2",
		"place " + s + " 3 0 -1", "error 2",
		"place " + s + " 2 1 2", "error 10",
		"place " + s + " 0 0 0", "error 1",
		"place - 2 0 0", "0",
		"place - 2 0 9223372036854775807", "error 2",
		"server", "0 -",
	})
}
