package rope

// Promise 2.3: Many, High, and the chunks.

import (
	"math/bits"
	"math/rand"
	"strings"
	"testing"
	"unicode/utf8"

	"rosetta/api"
	"rosetta/utf"
)

// chunksHold fails unless chunks, tree, Many and High are as promised.
func chunksHold(t *testing.T, r *Rope) {
	t.Helper()
	n := 0
	before := api.Chunk
	for text := range r.chunks() {
		if len(text) < 1 || len(text) > api.Chunk || !utf8.ValidString(text) {
			t.Fatalf("chunk %q", text)
		}
		if before+len(text) <= api.Chunk {
			t.Fatalf("chunk %q fits into the one ahead", text)
		}
		before = len(text)
		n++
	}
	if r.Many() != n {
		t.Fatalf("Many = %d, not %d", r.Many(), n)
	}
	if high := treeHolds(t, r.tree()); r.High() != high {
		t.Fatalf("High = %d, not %d", r.High(), high)
	}
	if most := 2 * bits.Len(uint(n+1)); n == 0 && r.High() != 0 || r.High() > most {
		t.Fatalf("High = %d with %d chunks: more than %d", r.High(), n, most)
	}
}

// treeHolds fails unless each node tells the truth of what is below it; it is how high the tree is.
func treeHolds(t *testing.T, n *node) int {
	t.Helper()
	if n == nil {
		return 0
	}
	left, right := treeHolds(t, n.left), treeHolds(t, n.right)
	own, err := utf.Count(n.text)
	if err != nil || own != n.own || n.all != utf.Plus(own, utf.Plus(n.left.counts(), n.right.counts())) {
		t.Fatalf("a node of %q counts %v, %v", n.text, n.own, n.all)
	}
	if left-right > 1 || right-left > 1 {
		t.Fatalf("trees of %d and %d below one node", left, right)
	}
	return 1 + max(left, right)
}

func TestChunks(t *testing.T) {
	for _, c := range []struct {
		text string
		many int
	}{
		{"", 0},
		{"a", 1},
		{strings.Repeat("a", api.Chunk), 1},
		{strings.Repeat("a", api.Chunk+1), 2},
		{strings.Repeat("a", api.Chunk-1) + "\u00E9", 2},
		{strings.Repeat("a", api.Chunk-3) + "\U0001F600", 2},
		{strings.Repeat("a", api.Chunk-4) + "\U0001F600", 1},
		{strings.Repeat("a", api.MaxHeld), api.MaxHeld / api.Chunk},
	} {
		r, err := New(c.text)
		if err != nil {
			t.Fatal(err)
		}
		chunksHold(t, r)
		if r.Many() != c.many {
			t.Errorf("Many of %q = %d, not %d", c.text, r.Many(), c.many)
		}
	}
}

// The bound of High and the chunks' sizes hold however the document came to be.
func TestChunksGrow(t *testing.T) {
	for name, at := range map[string]func(held int) int{
		"at the beginning": func(held int) int { return 0 },
		"at the end":       func(held int) int { return held },
		"in the middle":    func(held int) int { return held / 2 },
		"at a third":       func(held int) int { return held / 3 },
	} {
		t.Run(name, func(t *testing.T) {
			var r Rope
			for held := range api.MaxHeld {
				if err := r.Splice(at(held), 0, "a"); err != nil {
					t.Fatal(err)
				}
				if held%50 == 0 {
					chunksHold(t, &r)
				}
			}
			chunksHold(t, &r)
			for held := api.MaxHeld; held > 0; held -= 5 {
				if err := r.Splice(at(held-5), 5, ""); err != nil {
					t.Fatal(err)
				}
				chunksHold(t, &r)
			}
			if r.Many() != 0 || r.High() != 0 {
				t.Errorf("Many, High of nothing = %d, %d", r.Many(), r.High())
			}
		})
	}
}

func TestChunksMixed(t *testing.T) {
	d := rand.New(rand.NewSource(3))
	var r Rope
	s := ""
	for range 4000 {
		at, drop := runeAt(s, d.Intn(len(s)+1)), 0
		if d.Intn(3) > 0 {
			drop = runeAt(s[at:], min(len(s)-at, d.Intn(90)))
		}
		put := strings.Repeat([]string{"a", "\u00E9", "\u20AC", "\U0001F600"}[d.Intn(4)], d.Intn(30))
		if len(s)-drop+len(put) > api.MaxHeld {
			drop, put = runeAt(s[at:], (len(s)-at)/2), ""
		}
		if err := r.Splice(at, drop, put); err != nil {
			t.Fatal(err)
		}
		s = s[:at] + put + s[at+drop:]
		if r.Text() != s {
			t.Fatalf("%q, not %q", r.Text(), s)
		}
		chunksHold(t, &r)
	}
}

// runeAt is the first place from at on at which a rune begins (or the end).
func runeAt(s string, at int) int {
	for at < len(s) && !utf8.RuneStart(s[at]) {
		at++
	}
	return at
}

// Chunks are gone through as long as one asks for more.
func TestChunksStop(t *testing.T) {
	r, err := New(strings.Repeat("a", 10*api.Chunk))
	if err != nil {
		t.Fatal(err)
	}
	n := 0
	for range r.chunks() {
		if n++; n == 3 {
			break
		}
	}
	if n != 3 {
		t.Errorf("%d chunks, not 3", n)
	}
	for range pieces(strings.Repeat("a", 10*api.Chunk)) {
		break
	}
}

// A copy of a Rope is a document of its own.
func TestCopy(t *testing.T) {
	r, err := New(strings.Repeat("ab", 100))
	if err != nil {
		t.Fatal(err)
	}
	other := *r
	if err := r.Splice(50, 100, "x"); err != nil {
		t.Fatal(err)
	}
	if other.Text() != strings.Repeat("ab", 100) {
		t.Errorf("the copy is %q", other.Text())
	}
}
