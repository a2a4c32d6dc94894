package ops_test

// What the tests of this package share: operations written short, and what operations come to, reckoned byte by byte.

import (
	"math/rand"
	"slices"
	"strconv"
	"strings"
	"testing"
	"unicode/utf8"

	"rosetta/api"
	"rosetta/plain"
)

const four = "\U0001F600"

// op is an operation written short: k3 keeps, d2 drops, pxy puts.
func op(short string) api.Op {
	var l api.Op
	for _, w := range strings.Fields(short) {
		n, _ := strconv.Atoi(w[1:])
		switch w[0] {
		case 'k':
			l = append(l, api.Part{Keep: n})
		case 'd':
			l = append(l, api.Part{Drop: n})
		default:
			l = append(l, api.Part{Put: w[1:]})
		}
	}
	return l
}

// wantError fails unless err is that one, with no place.
func wantError(t *testing.T, what string, err error, want api.Errno) {
	t.Helper()
	if e, place := plain.Place(err); e != want || place != -1 {
		t.Errorf("%s: error %d at %d, not %d", what, e, place, want)
	}
}

// wantOp fails unless there is no error, and the operation is that one.
func wantOp(t *testing.T, what string, got api.Op, err error, want api.Op) {
	t.Helper()
	if err != nil || !plain.Same(got, want) {
		t.Errorf("%s = %v, %v, not %v", what, got, err, want)
	}
}

// item is a byte: one that a document had at first, by its number, or (-1) one that was put.
type item struct {
	from int
	put  byte
}

// had is a document of so many bytes, of which nothing is known.
func had(n int) []item {
	l := make([]item, n)
	for i := range l {
		l[i].from = i
	}
	return l
}

// play does an operation.
func play(op api.Op, l []item) []item {
	var out []item
	for _, p := range op {
		out = append(out, l[:p.Keep]...)
		l = l[p.Keep+p.Drop:]
		for i := range len(p.Put) {
			out = append(out, item{-1, p.Put[i]})
		}
	}
	if len(l) > 0 {
		panic("the operation is not over all of the document")
	}
	return out
}

// least is what makes of a document of n bytes what l tells, in least form.
func least(l []item, n int) api.Op {
	var op api.Op
	at, put := 0, ""
	tell := func(to int) {
		if put != "" {
			op = append(op, api.Part{Put: put})
		}
		if to > at {
			op = append(op, api.Part{Drop: to - at})
		}
		at, put = to, ""
	}
	for _, x := range l {
		if x.from < 0 {
			put += string([]byte{x.put})
			continue
		}
		tell(x.from)
		if end := len(op) - 1; end >= 0 && op[end].Keep > 0 {
			op[end].Keep++
		} else {
			op = append(op, api.Part{Keep: 1})
		}
		at++
	}
	tell(n)
	return op
}

// placed is what an operation over n bytes puts ahead of each byte (and at the end), and which bytes it keeps, by its least form.
func placed(a api.Op, n int) (puts []string, kept []bool) {
	puts, kept = make([]string, n+1), make([]bool, n)
	at := 0
	for _, p := range least(play(a, had(n)), n) {
		puts[at] += p.Put
		for range p.Keep {
			kept[at] = true
			at++
		}
		at += p.Drop
	}
	return puts, kept
}

// turned is what a comes to over what b makes, both over n bytes.
func turned(a, b api.Op, n int, first bool) api.Op {
	putsA, keptA := placed(a, n)
	putsB, keptB := placed(b, n)
	var l []item
	made := 0 // how many bytes b makes
	for at := range n + 1 {
		var own, other []item
		for i := range len(putsA[at]) {
			own = append(own, item{-1, putsA[at][i]})
		}
		for range len(putsB[at]) {
			other = append(other, item{from: made})
			made++
		}
		if first {
			l = append(append(l, own...), other...)
		} else {
			l = append(append(l, other...), own...)
		}
		if at < n && keptB[at] {
			if keptA[at] {
				l = append(l, item{from: made})
			}
			made++
		}
	}
	return least(l, made)
}

// anyOp is an operation over a text's bytes, with parts side by side, too; whole: all of its parts end between two runes.
func anyOp(d *rand.Rand, s string, whole bool) api.Op {
	var l api.Op
	for at := 0; at < len(s) || d.Intn(3) > 0; {
		n := min(len(s)-at, 1+d.Intn(5))
		for whole && at+n < len(s) && !utf8.RuneStart(s[at+n]) {
			n++
		}
		switch kind := d.Intn(3); {
		case kind == 0 || n == 0:
			l = append(l, api.Part{Put: []string{"x", "yz", "\u00E9", "\u20AC", four, "\n"}[d.Intn(6)]})
		case kind == 1:
			l, at = append(l, api.Part{Drop: n}), at+n
		default:
			l, at = append(l, api.Part{Keep: n}), at+n
		}
	}
	return l
}

// anyText has runes of each size.
func anyText(d *rand.Rand) string {
	var b strings.Builder
	for range d.Intn(12) {
		b.WriteString([]string{"a", "\n", "\u00E9", "\u20AC", four}[d.Intn(5)])
	}
	return b.String()
}

// guarded is a copy of an operation with parts behind its end; the function fails if any of it, or of these, is not any more what it was (P4).
func guarded(t *testing.T, op api.Op) (api.Op, func()) {
	t.Helper()
	all := append(slices.Clone(op), api.Part{Keep: 77}, api.Part{Put: "behind"})
	was := slices.Clone(all)
	return all[:len(op):len(all)], func() {
		t.Helper()
		if !slices.Equal(all, was) {
			t.Errorf("%v became %v", was, all)
		}
	}
}

// spoil writes into all of a list that came out, and behind it.
func spoil(op api.Op) {
	for i := range op[:cap(op)] {
		op[:cap(op)][i] = api.Part{Keep: -9}
	}
}
