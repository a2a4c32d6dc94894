// Package utf: a text in three forms.
package utf

import (
	"unicode/utf8"

	"rosetta/api"
)

// Where the halves of UTF-16 that are no rune alone begin and end, and the first rune that needs two of them.
const (
	firstHalves  = 0xD800
	secondHalves = 0xDC00
	behindHalves = 0xE000
	needsTwo     = 0x10000
)

// Runes are those of a text of bytes. ErrForm: it is no UTF-8: an At at the first byte at which no rune begins.
func Runes(s string) ([]rune, error) {
	var l []rune
	err := each(s, func(r rune, size int) bool {
		l = append(l, r)
		return true
	})
	if err != nil {
		return nil, err
	}
	return l, nil
}

// Text is the bytes of runes. ErrForm: one is none: an At at the first one.
func Text(l []rune) (string, error) {
	var b []byte
	for i, r := range l {
		if !utf8.ValidRune(r) {
			return "", wrong(i)
		}
		b = utf8.AppendRune(b, r)
	}
	return string(b), nil
}

// Halves are those of UTF-16 of a text of bytes. Runes' error.
func Halves(s string) ([]uint16, error) {
	var l []uint16
	err := each(s, func(r rune, size int) bool {
		l = appendHalves(l, r)
		return true
	})
	if err != nil {
		return nil, err
	}
	return l, nil
}

// FromHalves is the bytes of halves. ErrForm: a half stands alone: an At at the first one.
func FromHalves(l []uint16) (string, error) {
	var b []byte
	for i := 0; i < len(l); {
		r, size := lead(l[i:])
		if !utf8.ValidRune(r) {
			return "", wrong(i)
		}
		b = utf8.AppendRune(b, r)
		i += size
	}
	return string(b), nil
}

// Count counts a text of bytes. Runes' error.
func Count(s string) (api.Counts, error) {
	var c api.Counts
	err := each(s, func(r rune, size int) bool {
		c = Plus(c, countsOf(r, size))
		return true
	})
	if err != nil {
		return api.Counts{}, err
	}
	return c, nil
}

// Plus is counts together.
func Plus(a, b api.Counts) api.Counts {
	return api.Counts{
		Bytes:  a.Bytes + b.Bytes,
		Halves: a.Halves + b.Halves,
		Runes:  a.Runes + b.Runes,
		Lines:  a.Lines + b.Lines,
	}
}

// In is how many of a unit counts have (0: no such unit).
func In(c api.Counts, unit int) int {
	switch unit {
	case api.Bytes:
		return c.Bytes
	case api.Halves:
		return c.Halves
	case api.Runes:
		return c.Runes
	}
	return 0
}

// Walk goes through a text's runes, up to the first byte at which none begins: the counts of all ahead of each, and its own.
func Walk(s string) func(yield func(ahead, own api.Counts) bool) {
	return func(yield func(ahead, own api.Counts) bool) {
		if yield == nil { // no call may panic
			return
		}
		var ahead api.Counts
		// The error is Count's to tell: a walk has no place for it.
		_ = each(s, func(r rune, size int) bool {
			own := countsOf(r, size)
			if !yield(ahead, own) {
				return false
			}
			ahead = Plus(ahead, own)
			return true
		})
	}
}

// each hands the runes of a text to take, with how many bytes each has, as long as take says to go on. ErrForm: an At at the first byte at which no rune begins.
func each(s string, take func(r rune, size int) bool) error {
	for at := 0; at < len(s); {
		r, size := utf8.DecodeRuneInString(s[at:])
		// U+FFFD may stand in the text itself: then it has three bytes.
		if r == utf8.RuneError && size == 1 {
			return wrong(at)
		}
		if !take(r, size) {
			return nil
		}
		at += size
	}
	return nil
}

// countsOf is what one rune, of so many bytes, counts.
func countsOf(r rune, size int) api.Counts {
	c := api.Counts{Bytes: size, Halves: 1, Runes: 1}
	if r >= needsTwo {
		c.Halves = 2
	}
	if r == '\n' {
		c.Lines = 1
	}
	return c
}

// appendHalves puts a rune's halves behind l.
func appendHalves(l []uint16, r rune) []uint16 {
	if r < needsTwo {
		return append(l, uint16(r))
	}
	r -= needsTwo
	return append(l, uint16(firstHalves+(r>>10)), uint16(secondHalves+(r&0x3FF)))
}

// lead is the rune that halves (one at least) begin with, and how many of them it has. A half that stands alone is told as its number, which is no rune.
func lead(l []uint16) (rune, int) {
	if len(l) > 1 && isFirst(l[0]) && isSecond(l[1]) {
		high, low := rune(l[0])-firstHalves, rune(l[1])-secondHalves
		return needsTwo + (high<<10 | low), 2
	}
	return rune(l[0]), 1
}

func isFirst(h uint16) bool { return firstHalves <= h && h < secondHalves }

func isSecond(h uint16) bool { return secondHalves <= h && h < behindHalves }

func wrong(at int) error { return &api.At{Err: api.ErrForm, Place: at} }
