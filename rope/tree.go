package rope

import (
	"strings"
	"unicode/utf8"

	"rosetta/api"
	"rosetta/utf"
)

// node is a chunk in the tree that the chunks make, in their order from left to right; nil is a tree of none. The two trees below a chunk differ by one in height at most, which keeps it within the bound that High has. Two neighbours never fit into one chunk together, so that many small splices leave few chunks.
//
// A node is never changed once it is made: where a tree changes, new nodes stand for the old ones.
type node struct {
	chunk
	left, right *node
	all         api.Counts // of this chunk and of all below it
	high, many  int
}

// chunk is 1 to api.Chunk bytes of whole runes, and what they count.
type chunk struct {
	text string
	own  api.Counts
}

// chunkOf copies a text: a small piece of a great one would keep all of that in memory.
func chunkOf(text string) chunk {
	own, _ := utf.Count(text) // it was counted when it came in
	return chunk{text: strings.Clone(text), own: own}
}

func (t *node) counts() api.Counts {
	if t == nil {
		return api.Counts{}
	}
	return t.all
}

func (t *node) height() int {
	if t == nil {
		return 0
	}
	return t.high
}

func (t *node) size() int {
	if t == nil {
		return 0
	}
	return t.many
}

// until is the counts of as few runes, from the first one on, as are enough; of all, if these are not. What is enough stays so with more.
func (t *node) until(enough func(ahead api.Counts) bool) api.Counts {
	var ahead api.Counts
	for t != nil {
		first := utf.Plus(ahead, t.left.counts())
		here := utf.Plus(first, t.own)
		switch {
		case enough(first):
			t = t.left
		case enough(here):
			return within(first, t.text, enough)
		default:
			ahead, t = here, t.right
		}
	}
	return ahead
}

// within is until, of all ahead of a chunk and of as few of its runes as are enough.
func within(first api.Counts, text string, enough func(ahead api.Counts) bool) api.Counts {
	for ahead, own := range utf.Walk(text) {
		if here := utf.Plus(first, utf.Plus(ahead, own)); enough(here) {
			return here
		}
	}
	return first
}

// whole says whether a place, by bytes, is between two runes (or at an end).
func (t *node) whole(at int) bool {
	return t.until(func(ahead api.Counts) bool { return ahead.Bytes >= at }).Bytes == at
}

// link puts a chunk above two trees that differ by one in height at most.
func link(left *node, c chunk, right *node) *node {
	return &node{
		chunk: c,
		left:  left,
		right: right,
		all:   utf.Plus(utf.Plus(left.counts(), c.own), right.counts()),
		high:  1 + max(left.height(), right.height()),
		many:  1 + left.size() + right.size(),
	}
}

// turn is link for trees that differ by two in height at most.
func turn(left *node, c chunk, right *node) *node {
	switch left.height() - right.height() {
	case 2:
		if l := left.right; l.height() > left.left.height() {
			return link(link(left.left, left.chunk, l.left), l.chunk, link(l.right, c, right))
		}
		return link(left.left, left.chunk, link(left.right, c, right))
	case -2:
		if r := right.left; r.height() > right.right.height() {
			return link(link(left, c, r.left), r.chunk, link(r.right, right.chunk, right.right))
		}
		return link(link(left, c, right.left), right.chunk, right.right)
	}
	return link(left, c, right)
}

// join is link for trees of any heights.
func join(left *node, c chunk, right *node) *node {
	switch apart := left.height() - right.height(); {
	case apart > 1:
		return turn(left.left, left.chunk, join(left.right, c, right))
	case apart < -1:
		return turn(join(left, c, right.left), right.chunk, right.right)
	}
	return link(left, c, right)
}

// first is the first chunk of a tree that has one, and the tree of the others.
func first(t *node) (chunk, *node) {
	if t.left == nil {
		return t.chunk, t.right
	}
	c, rest := first(t.left)
	return c, join(rest, t.chunk, t.right)
}

// last is the last chunk of a tree that has one, and the tree of the others.
func last(t *node) (chunk, *node) {
	if t.right == nil {
		return t.chunk, t.left
	}
	c, rest := last(t.right)
	return c, join(t.left, t.chunk, rest)
}

// split is the trees of all ahead of a place between two runes, and of all behind it, by bytes. A chunk in which it is becomes two, that may be small.
func split(t *node, at int) (*node, *node) {
	if t == nil {
		return nil, nil
	}
	here := at - t.left.counts().Bytes
	switch {
	case here <= 0:
		ahead, behind := split(t.left, at)
		return ahead, join(behind, t.chunk, t.right)
	case here >= len(t.text):
		ahead, behind := split(t.right, here-len(t.text))
		return join(t.left, t.chunk, ahead), behind
	}
	return join(t.left, chunkOf(t.text[:here]), nil), join(nil, chunkOf(t.text[here:]), t.right)
}

// between is the tree of two others with a text between them. The chunks at both sides of it, that may be small, are cut anew with it.
func between(left *node, text string, right *node) *node {
	var ahead, behind chunk
	if left != nil {
		ahead, left = last(left)
	}
	if right != nil {
		behind, right = first(right)
	}
	for piece := range pieces(ahead.text + text + behind.text) {
		left = add(left, chunkOf(piece))
	}
	return chain(left, right)
}

// chain is two trees' chunks, the one's behind the other's.
func chain(left, right *node) *node {
	if right == nil {
		return left
	}
	c, right := first(right)
	left = add(left, c)
	if right == nil {
		return left
	}
	c, right = first(right)
	return join(left, c, right)
}

// add puts a chunk behind all, into the last one, if it has room.
func add(t *node, c chunk) *node {
	if t == nil {
		return link(nil, c, nil)
	}
	if end, rest := last(t); len(end.text)+len(c.text) <= api.Chunk {
		return join(rest, chunkOf(end.text+c.text), nil)
	}
	return join(t, c, nil)
}

// pieces goes through a text by pieces of whole runes, as great as a chunk may be.
func pieces(text string) func(yield func(piece string) bool) {
	return func(yield func(piece string) bool) {
		for len(text) > 0 {
			end := min(len(text), api.Chunk)
			for end < len(text) && !utf8.RuneStart(text[end]) {
				end--
			}
			if !yield(text[:end]) {
				return
			}
			text = text[end:]
		}
	}
}
