package server_test

// Promise 7.1: New, Rev, Text, Log.

import (
	"math"
	"math/rand"
	"slices"
	"strings"
	"testing"

	"rosetta/api"
	"rosetta/ops"
	"rosetta/server"
)

func TestNew(t *testing.T) {
	for _, s := range []string{
		"", "a", "\n", "\x00", "a" + two + three + four + "\n",
		strings.Repeat("a", api.MaxDoc-1), strings.Repeat("a", api.MaxDoc), strings.Repeat(four, api.MaxDoc/4),
	} {
		made(t, s)
	}
}

func TestNewErrors(t *testing.T) {
	full := strings.Repeat("a", api.MaxDoc)
	for _, c := range []struct {
		what, s string
		want    api.Errno
		at      int
	}{
		{"one byte more", full + "a", api.ErrFull, -1},
		{"one byte more, few runes", strings.Repeat(four, api.MaxDoc/4) + "a", api.ErrFull, -1},
		{"as much as may be held", strings.Repeat("a", api.MaxHeld), api.ErrFull, -1},
		{"more than may be held", strings.Repeat("a", api.MaxHeld+1), api.ErrFull, -1},
		{"no text", "\xFF", api.ErrForm, 0},
		{"no text further on", "a" + four + "\x80b\xFF", api.ErrForm, 5},
		{"no text at its end", "ab" + four[:3], api.ErrForm, 2},
		{"no text ahead of too much", full + "a\xFF", api.ErrForm, api.MaxDoc + 1},
		{"no text ahead of too much, early", "\xC0" + full, api.ErrForm, 0},
	} {
		x, err := server.New(c.s)
		wantError(t, c.what, err, c.want, c.at)
		if x != nil {
			t.Errorf("%s: a server beside an error", c.what)
		}
	}
}

func TestLog(t *testing.T) {
	x := made(t, "abc")
	wantRange := func(from int) {
		t.Helper()
		l, err := x.Log(from)
		wantError(t, "Log", err, api.ErrRange, -1)
		if len(l) != 0 {
			t.Errorf("Log(%d): %v beside an error", from, l)
		}
	}
	var want []server.Entry
	for rev := range 5 {
		for from := range rev + 1 {
			l, err := x.Log(from)
			if err != nil || !slices.EqualFunc(l, want[from:], sameEntry) {
				t.Errorf("Log(%d) of %d: %v, %v, not %v", from, rev, l, err, want[from:])
			}
		}
		for _, from := range []int{-1, math.MinInt, rev + 1, rev + 2, math.MaxInt} {
			wantRange(from)
		}
		o := append(op("px"), api.Part{Keep: 3 + rev})
		take(t, x, -7*rev, rev+1, rev, o)
		want = append(want, server.Entry{Client: -7 * rev, Id: rev + 1, Op: o})
	}
	wantServer(t, "at last", x, "xxxxxabc", want...)
}

// Each entry is over what all ahead of it make.
func TestLogMakesTheText(t *testing.T) {
	d := rand.New(rand.NewSource(17))
	for range 100 {
		first := anyText(d, 10)
		x := made(t, first)
		texts := []string{first}
		for id := range 12 {
			rev := x.Rev() - d.Intn(min(4, x.Rev()+1))
			take(t, x, d.Intn(3), id+1, rev, anyOp(d, texts[rev], true))
			texts = append(texts, x.Text())
		}
		for from := range texts {
			s := texts[from]
			l, err := x.Log(from)
			wantError(t, "Log", err, api.OK, -1)
			for i, e := range l {
				if s, err = ops.Apply(e.Op, s); err != nil || s != texts[from+i+1] {
					t.Fatalf("operation %d: %q, %v, not %q", from+i, s, err, texts[from+i+1])
				}
			}
		}
	}
}

// What comes out is the caller's, and no two lists of it share memory; what is handed in is not kept, and not written into (P4).
func TestTheirOwn(t *testing.T) {
	x := made(t, "abcd")
	all := op("k1 d1 px k2 k77 pbehind")
	was := slices.Clone(all)
	for rev := range 2 { // as it is handed in, and turned over
		take(t, x, rev, 1, 0, all[:4])
		if !slices.Equal(all, was) {
			t.Errorf("%v became %v", was, all)
		}
	}
	want := []server.Entry{{Client: 0, Id: 1, Op: op("k1 d1 px k2")}, {Client: 1, Id: 1, Op: op("k2 px k2")}}
	for i := range all {
		all[i] = api.Part{Put: "spoilt"}
	}
	wantServer(t, "the operation spoilt", x, "axxcd", want...)
	l := log(t, x)
	for i := range l {
		for k := range l[i].Op[:cap(l[i].Op)] {
			l[i].Op[:cap(l[i].Op)][k] = api.Part{Put: "spoilt"}
		}
		if i == 0 && !sameEntry(l[1], want[1]) {
			t.Errorf("two operations of one answer share memory: %v", l)
		}
	}
	for i := range l {
		l[i] = server.Entry{}
	}
	_ = append(l, server.Entry{Client: 9})
	wantServer(t, "the answer spoilt", x, "axxcd", want...)
	take(t, x, 2, 1, 2, op("k5 py"))
	wantServer(t, "one more", x, "axxcdy", append(want, server.Entry{Client: 2, Id: 1, Op: op("k5 py")})...)
}

// Two servers have nothing to do with one another.
func TestTwoServers(t *testing.T) {
	x, y := made(t, "abc"), made(t, "abc")
	take(t, x, 1, 5, 0, op("d3"))
	wantServer(t, "the other one", y, "abc")
	wantLast(t, "the other one", y, 1, 0, api.OK)
	take(t, y, 1, 1, 0, op("k3 px"))
	wantServer(t, "the other one", y, "abcx", server.Entry{Client: 1, Id: 1, Op: op("k3 px")})
	wantServer(t, "the first one", x, "", server.Entry{Client: 1, Id: 5, Op: op("d3")})
}

// No server is asked like an empty document to which nothing was done (P1).
func TestNone(t *testing.T) {
	for _, x := range []*server.Server{nil, {}} {
		wantError(t, "Take", x.Take(1, 1, 0, op("px")), api.ErrNone, -1)
		wantServer(t, "none", x, "")
		wantLast(t, "none", x, 1, 0, api.OK)
		for _, from := range []int{-1, 1} {
			_, err := x.Log(from)
			wantError(t, "Log", err, api.ErrRange, -1)
		}
	}
}
