package client

import (
	"strings"

	"rosetta/api"
	"rosetta/ops"
	"rosetta/utf"
)

// inBytes is an operation that counts in a unit, over a text, in bytes, part by part. It tells what bridge.To does, but that asks a Rope, which has room for MaxHeld bytes: what the server tells has no such bound, nor has a document to which that was done. bridge.To's errors.
func inBytes(op api.Op, unit int, s string) (api.Op, error) {
	all, err := utf.Count(s)
	if err != nil {
		return nil, err
	}
	if err := ops.Check(op, utf.In(all, unit)); err != nil {
		return nil, err
	}
	var l api.Op
	for _, p := range op {
		n, whole := head(s, unit, p.Keep+p.Drop)
		if !whole {
			return nil, api.ErrOrder
		}
		s = s[n:]
		l = append(l, sized(p, n))
	}
	return l, nil
}

// sized is a part in memory of its own that keeps or drops so much, if it does.
func sized(p api.Part, n int) api.Part {
	switch {
	case p.Keep > 0:
		return api.Part{Keep: n}
	case p.Drop > 0:
		return api.Part{Drop: n}
	}
	return api.Part{Put: strings.Clone(p.Put)}
}

// head is how many bytes the first n of a unit are, of a text that has so many, and whether they end between two runes (or at an end).
func head(s string, unit, n int) (int, bool) {
	var here api.Counts
	for ahead, own := range utf.Walk(s) {
		if utf.In(here, unit) >= n {
			break
		}
		here = utf.Plus(ahead, own)
	}
	return here.Bytes, utf.In(here, unit) == n
}
