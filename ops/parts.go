package ops

import (
	"unicode/utf8"

	"rosetta/api"
)

func isKeep(p api.Part) bool { return p.Keep > 0 }

func isDrop(p api.Part) bool { return p.Drop > 0 }

func isPut(p api.Part) bool { return p.Put != "" }

// isOne says whether a part is just one of the three, and neither number is below 0.
func isOne(p api.Part) bool {
	switch p {
	case api.Part{Keep: p.Keep}:
		return isKeep(p)
	case api.Part{Drop: p.Drop}:
		return isDrop(p)
	}
	return p == api.Part{Put: p.Put}
}

// checkBoth is what Check says of one operation, then of the other one, each over as much as it keeps and drops itself.
func checkBoth(a, b api.Op) error {
	was, _ := Lens(a)
	if err := Check(a, was); err != nil {
		return err
	}
	was, _ = Lens(b)
	return Check(b, was)
}

// checkOver is what Check says of an operation over a text; ErrOrder: a part begins or ends within a rune.
func checkOver(op api.Op, s string) error {
	if err := Check(op, len(s)); err != nil {
		return err
	}
	for _, piece := range over(op, s) {
		// Where one piece ends the next one begins, or the text ends.
		if piece != "" && !utf8.RuneStart(piece[0]) {
			return api.ErrOrder
		}
	}
	return nil
}

// over goes through the parts of an operation that Check has no error of, each with the piece of the text that it keeps or drops.
func over(op api.Op, s string) func(yield func(p api.Part, piece string) bool) {
	return func(yield func(p api.Part, piece string) bool) {
		rest := s
		for _, p := range op {
			n := p.Keep + p.Drop
			if !yield(p, rest[:n]) {
				return
			}
			rest = rest[n:]
		}
	}
}

// gather makes an operation in least form: add takes its parts, one behind the other, and done tells what they are.
func gather() (add func(p api.Part), done func() api.Op) {
	var op api.Op
	var put []byte
	drop := 0
	// Only at the next Keep, or at the end, is it known what was put and dropped at a place.
	tell := func() {
		if len(put) > 0 {
			op = append(op, api.Part{Put: string(put)})
		}
		if drop != 0 {
			op = append(op, api.Part{Drop: drop})
		}
		put, drop = put[:0], 0
	}
	add = func(p api.Part) {
		put = append(put, p.Put...)
		drop += p.Drop
		if p.Keep == 0 {
			return
		}
		tell()
		if end := len(op) - 1; end >= 0 && isKeep(op[end]) {
			op[end].Keep += p.Keep
			return
		}
		op = append(op, api.Part{Keep: p.Keep})
	}
	done = func() api.Op {
		tell()
		return op
	}
	return add, done
}

// sideBySide hands two operations to take, both from the left on. A part of which loneA (or loneB, of b's) holds comes alone, beside a part of nothing, a's ahead of b's; all others, that must be as long together in both, come together, as much at a time as both have. Into a and b is written.
func sideBySide(a, b api.Op, loneA, loneB func(p api.Part) bool, take func(a, b api.Part)) {
	for len(a) > 0 || len(b) > 0 {
		var one, two api.Part
		switch {
		case len(a) > 0 && loneA(a[0]):
			one, a = a[0], a[1:]
		case len(b) > 0 && loneB(b[0]):
			two, b = b[0], b[1:]
		default:
			n := min(length(a[0]), length(b[0]))
			one, a = cut(a, n)
			two, b = cut(b, n)
		}
		take(one, two)
	}
}

// length is how much a part keeps, drops or puts.
func length(p api.Part) int { return p.Keep + p.Drop + len(p.Put) }

// cut takes so much off an operation's first part, that has as much at least. Into the operation is written.
func cut(op api.Op, n int) (api.Part, api.Op) {
	p := op[0]
	if length(p) == n {
		return p, op[1:]
	}
	switch {
	case isKeep(p):
		op[0].Keep -= n
		return api.Part{Keep: n}, op
	case isDrop(p):
		op[0].Drop -= n
		return api.Part{Drop: n}, op
	}
	op[0].Put = p.Put[n:]
	return api.Part{Put: p.Put[:n]}, op
}
