package server_test

// Promise 7.2: Take, Last.

import (
	"math"
	"math/rand"
	"slices"
	"strings"
	"testing"

	"rosetta/api"
	"rosetta/ops"
	"rosetta/server"
)

func TestTakeAtRev(t *testing.T) {
	x := made(t, "abc")
	take(t, x, 4, 1, 0, op("k1 d1 pxy k1")) // example 2 of the document
	take(t, x, 4, 2, 1, op("k4"))
	take(t, x, 0, 1, 2, op("p"+four+" k4"))
	take(t, x, 4, 3, 3, op("d8"))
	take(t, x, 4, 4, 4, nil)
	take(t, x, 4, 5, 5, op("pq"))
	wantServer(t, "one by one", x, "q", []server.Entry{
		{Client: 4, Id: 1, Op: op("k1 d1 pxy k1")}, // it is not turned over any: it stays as it is, not in least form
		{Client: 4, Id: 2, Op: op("k4")},
		{Client: 0, Id: 1, Op: op("p" + four + " k4")},
		{Client: 4, Id: 3, Op: op("d8")},
		{Client: 4, Id: 4},
		{Client: 4, Id: 5, Op: op("pq")},
	}...)
	x = made(t, "abc")
	long := op("px py k1 k1 d1 pz")
	take(t, x, 1, 1, 0, long)
	wantServer(t, "part by part", x, "xyabz", server.Entry{Client: 1, Id: 1, Op: long})
}

// An operation that was made when fewer were done is turned over those that came meanwhile: what they put at its place is ahead.
func TestTurnedOver(t *testing.T) {
	for _, c := range []struct {
		what, s string
		done    []string // one over the other
		rev     int
		op      string
		applied string
		comes   string
	}{
		{"over one", "abc", []string{"k1 d1 k1"}, 0, "k3 px", "k2 px", "acx"},
		{"over one, both at one place", "abc", []string{"k1 py k2"}, 0, "k1 px k2", "k2 px k2", "ayxbc"},
		{"over one, both at the beginning", "ab", []string{"pyz k2"}, 0, "px k2", "k2 px k2", "yzxab"},
		{"over one, both at the end", "ab", []string{"k2 pyz"}, 0, "k2 px", "k4 px", "abyzx"},
		{"over one, both the same drop", "abc", []string{"k1 d1 k1"}, 0, "k1 d1 k1", "k2", "ac"},
		{"over one, all dropped", "abc", []string{"d3"}, 0, "k1 px k2", "px", "x"},
		{"over one that does nothing", "ab", []string{"k2"}, 0, "k1 k1 px py", "k2 pxy", "abxy"},
		{"over one, in runes of more bytes", two + three, []string{"k2 p" + four + " k3"}, 0, "k2 d3 px", "k6 px d3", two + four + "x"},
		{"over two", "abc", []string{"py k3", "k4 pz"}, 0, "k3 px", "k5 px", "yabczx"},
		{"over two, the one behind drops what the one ahead puts", "ab", []string{"k1 pyy k1", "k1 d2 k1"}, 0, "k1 px k1", "k1 px k1", "axb"},
		{"over two, one by one at one place", "", []string{"py", "pz k1"}, 0, "px", "k2 px", "zyx"},
		{"over three", "abcd", []string{"d1 k3", "k3 pe", "k1 d1 k2"}, 0, "d2 pxx k1 d1", "pxx d2 k1", "xxe"}, // bcd, bcde, bde
		{"over the last of two", "abc", []string{"py k3", "k4 pz"}, 1, "k4 px", "k5 px", "yabczx"},
		{"over the last two of three", "a", []string{"d1", "pbb", "k2 pc"}, 1, "px", "k3 px", "bbcx"},
		{"over none of three", "a", []string{"d1", "pbb", "k2 pc"}, 3, "px k1 k2", "px k1 k2", "xbbc"},
	} {
		x := made(t, c.s)
		var done []server.Entry
		for i, o := range c.done {
			take(t, x, 1, i+1, i, op(o))
			done = append(done, server.Entry{Client: 1, Id: i + 1, Op: op(o)})
		}
		take(t, x, 2, 1, c.rev, op(c.op))
		wantServer(t, c.what, x, c.comes, append(done, server.Entry{Client: 2, Id: 1, Op: op(c.applied)})...)
	}
}

// Who comes first is not seen: what was done is turned over an operation, the other way round, to the same text.
func TestTurnedTheOtherWay(t *testing.T) {
	d := rand.New(rand.NewSource(18))
	for range 300 {
		s := anyText(d, 8)
		x := made(t, s)
		texts := []string{s}
		for id := 1; id <= 8; id++ {
			rev := d.Intn(len(texts))
			o := anyOp(d, texts[rev], true)
			meanwhile, _ := x.Log(rev)
			take(t, x, d.Intn(4), id, rev, o)
			want, err := ops.Apply(o, texts[rev])
			for _, e := range meanwhile {
				over, bad := ops.Transform(e.Op, o, true)
				if bad != nil || err != nil {
					t.Fatal(bad, err)
				}
				o, _ = ops.Transform(o, e.Op, false)
				want, err = ops.Apply(over, want)
			}
			if x.Text() != want {
				t.Fatalf("%q, not %q", x.Text(), want)
			}
			texts = append(texts, x.Text())
		}
	}
}

// An operation is held against the document as it was when so many were done, not as it is.
func TestSizeAtRev(t *testing.T) {
	x := made(t, "abc")
	take(t, x, 1, 1, 0, op("k3 pdefg"))
	take(t, x, 1, 2, 1, op("d6 k1"))
	for id, c := range []struct {
		rev  int
		op   string
		want api.Errno
	}{
		{0, "k1", api.ErrRange}, {0, "k7", api.ErrRange}, {0, "k2 px", api.ErrRange}, {0, "k3", api.OK},
		{1, "k1", api.ErrRange}, {1, "k3", api.ErrRange}, {1, "k7 d1", api.ErrRange}, {1, "d7 px", api.OK},
		{2, "k3", api.ErrRange}, {2, "k7", api.ErrRange}, {2, "", api.ErrRange}, {2, "k1", api.OK},
	} {
		y := made(t, "abc")
		for _, e := range log(t, x) {
			take(t, y, e.Client, e.Id, e.Id-1, e.Op)
		}
		if c.want == api.OK {
			take(t, y, 2, id+1, c.rev, op(c.op))
		} else {
			refuse(t, c.op, y, 2, id+1, c.rev, op(c.op), c.want)
		}
	}
}

// Where a part begins or ends is held against the document as it is, part by part.
func TestWithinARune(t *testing.T) {
	x := made(t, "a"+two+four)
	for id, o := range []string{"k2 k5", "k1 d1 k5", "k3 d1 k3", "k4 px k3", "d6 k1", "k2 px d1 k4", "k1 d1 px d1 k4"} {
		refuse(t, o, x, 1, id+1, 0, op(o), api.ErrOrder)
	}
	take(t, x, 2, 1, 0, op("py k7"))
	refuse(t, "the rune is there still", x, 1, 11, 0, op("k2 k1 px d1 k3"), api.ErrOrder)
	refuse(t, "the rune is there still", x, 1, 12, 0, op("k4 d3"), api.ErrOrder)
	wantServer(t, "one was done", x, "ya"+two+four, server.Entry{Client: 2, Id: 1, Op: op("py k7")})
	// Turned over another one it is in least form: its Put is not within a rune any more.
	take(t, x, 1, 13, 0, op("k1 d1 px d1 k4"))
	// The rune within which it ends is gone.
	take(t, x, 2, 2, 2, op("k3 d4"))
	take(t, x, 1, 14, 2, op("k3 d2 k2"))
	wantServer(t, "the rune is gone", x, "yax", []server.Entry{
		{Client: 2, Id: 1, Op: op("py k7")},
		{Client: 1, Id: 13, Op: op("k2 px d2 k4")},
		{Client: 2, Id: 2, Op: op("k3 d4")},
		{Client: 1, Id: 14, Op: op("k3")},
	}...)
}

// Where an operation is wrong in two ways, what chapter 7 names first is told; and the same when it is told once more, though it be right now.
func TestErrorsAhead(t *testing.T) {
	s := two + strings.Repeat("a", api.MaxDoc-4) + two
	bad := api.Op{{}, {Keep: len(s)}}
	form := api.Op{{Put: "\xFF"}, {Keep: len(s)}}
	short := api.Op{{Keep: len(s) - 1}, {Put: "x"}}
	within := api.Op{{Keep: 1}, {Put: "x"}, {Keep: len(s) - 1}}
	full := api.Op{{Put: "x"}, {Keep: len(s)}}
	x := made(t, s)
	for id, c := range []struct {
		what string
		rev  int
		op   api.Op
		want api.Errno
	}{
		{"no such number", 1, op("k1"), api.ErrRange},
		{"below 0", -1, api.Op{{Keep: len(s)}}, api.ErrRange},
		{"far off", math.MaxInt, api.Op{{Keep: len(s)}}, api.ErrRange},
		{"far below", math.MinInt, api.Op{{Keep: len(s)}}, api.ErrRange},
		{"no such number ahead of no part", 1, bad, api.ErrRange},
		{"no such number ahead of no text", -1, form, api.ErrRange},
		{"no such number ahead of within a rune", 1, within, api.ErrRange},
		{"no such number ahead of no room", -1, full, api.ErrRange},
		{"no part", 0, bad, api.ErrArg},
		{"below 0", 0, api.Op{{Keep: len(s) + 1}, {Keep: -1}}, api.ErrArg},
		{"two in one", 0, api.Op{{Keep: len(s), Put: "x"}}, api.ErrArg},
		{"no part ahead of no text", 0, api.Op{{Keep: len(s)}, {}, {Put: "\xFF"}}, api.ErrArg},
		{"no part ahead of how much", 0, api.Op{{}}, api.ErrArg},
		{"no part ahead of within a rune, no room", 0, append(slices.Clone(within), api.Part{}), api.ErrArg},
		{"no text", 0, form, api.ErrForm},
		{"no text ahead of no part", 0, api.Op{{Keep: len(s)}, {Put: "\xFF"}, {}}, api.ErrForm},
		{"no text ahead of how much", 0, api.Op{{Put: "\xFF"}}, api.ErrForm},
		{"no text ahead of within a rune, no room", 0, append(slices.Clone(within), api.Part{Put: "\x80"}), api.ErrForm},
		{"too little", 0, api.Op{{Keep: len(s) - 1}}, api.ErrRange},
		{"too much", 0, api.Op{{Keep: len(s)}, {Drop: 1}}, api.ErrRange},
		{"far too much", 0, api.Op{{Keep: math.MaxInt}, {Keep: math.MaxInt}, {Keep: len(s) + 2}}, api.ErrRange},
		{"how much ahead of within a rune, no room", 0, short, api.ErrRange},
		{"how much ahead of within a rune", 0, api.Op{{Keep: 1}, {Keep: 1}}, api.ErrRange},
		{"within a rune", 0, api.Op{{Keep: 1}, {Keep: len(s) - 1}}, api.ErrOrder},
		{"within a rune ahead of no room", 0, within, api.ErrOrder},
		{"no room", 0, full, api.ErrFull},
		{"no room at all", 0, api.Op{{Put: strings.Repeat("x", 1<<20)}, {Keep: len(s)}}, api.ErrFull},
	} {
		refuse(t, c.what, x, 1, id+2, c.rev, c.op, c.want)
		again(t, c.what+", again", x, 1, id+2, 0, api.Op{{Keep: len(s)}}, c.want)
		again(t, c.what+", older", x, 1, id+1, c.rev, c.op, api.ErrNone)
	}
	wantServer(t, "behind all errors", x, s)
}

func TestLimit(t *testing.T) {
	x := made(t, "a")
	for id := range api.MaxLog {
		take(t, x, 1, id+1, max(0, id-2), op("k1"))
	}
	if x.Rev() != api.MaxLog || x.Text() != "a" {
		t.Errorf("Rev %d, %q", x.Rev(), x.Text())
	}
	for id, c := range []struct {
		what string
		rev  int
		op   api.Op
		want api.Errno
	}{
		{"one more", api.MaxLog, op("k1"), api.ErrLimit},
		{"one more, that began early", 0, op("k1"), api.ErrLimit},
		{"no such number ahead of too many", api.MaxLog + 1, op("k1"), api.ErrRange},
		{"no such number ahead of too many", -1, op("k1"), api.ErrRange},
		{"too many ahead of no part", api.MaxLog, api.Op{{}}, api.ErrLimit},
		{"too many ahead of no text", 7, api.Op{{Keep: 1}, {Put: "\xFF"}}, api.ErrLimit},
		{"too many ahead of how much", api.MaxLog, op("k2"), api.ErrLimit},
		{"too many ahead of no room", api.MaxLog, op("k1 p" + strings.Repeat("x", api.MaxDoc)), api.ErrLimit},
	} {
		refuse(t, c.what, x, 2, id+1, c.rev, c.op, c.want)
		again(t, c.what+", again", x, 2, id+1, c.rev, c.op, c.want)
	}
	again(t, "the last one that was done", x, 1, api.MaxLog, 0, op("k1"), api.OK)
	again(t, "one ahead of it", x, 1, api.MaxLog-1, 0, op("k1"), api.ErrNone)
}

// Errors do not count as done.
func TestLimitIsOfWhatWasDone(t *testing.T) {
	x := made(t, "a")
	for id := range api.MaxLog + 10 {
		refuse(t, "wrong", x, 1, id+1, 0, op("k2"), api.ErrRange)
	}
	take(t, x, 1, api.MaxLog+11, 0, op("k1"))
}

func TestFull(t *testing.T) {
	half := strings.Repeat("a", api.MaxDoc/2)
	x := made(t, half)
	n := api.Part{Keep: len(half)}
	refuse(t, "one byte more", x, 1, 1, 0, api.Op{n, {Put: half + "x"}}, api.ErrFull)
	refuse(t, "one byte more in more than one part", x, 1, 2, 0, api.Op{{Put: "x"}, n, {Put: half}}, api.ErrFull)
	take(t, x, 1, 3, 0, api.Op{n, {Put: half}})
	if x.Text() != half+half {
		t.Errorf("%q", x.Text())
	}
	// Over the document as it was there would be room for it.
	refuse(t, "no room any more", x, 2, 1, 0, api.Op{n, {Put: "x"}}, api.ErrFull)
	refuse(t, "no room for what is more than is dropped", x, 2, 2, 1, api.Op{{Drop: 4}, {Put: four + "x"}, {Keep: api.MaxDoc - 4}}, api.ErrFull)
	take(t, x, 2, 3, 1, api.Op{{Drop: 4}, {Put: four}, {Keep: api.MaxDoc - 4}})
	if x.Text() != four+half[4:]+half {
		t.Errorf("%q", x.Text())
	}
	// What it would drop is dropped already: it makes no room.
	refuse(t, "dropped already", x, 3, 1, 1, api.Op{{Drop: 4}, {Put: "x"}, {Keep: api.MaxDoc - 4}}, api.ErrFull)
	take(t, x, 1, 4, 2, api.Op{{Keep: 4}, {Drop: api.MaxDoc - 4}})
	// Over the document as it was there would be none; now there is.
	take(t, x, 3, 2, 2, api.Op{{Keep: api.MaxDoc}, {Put: half}})
	take(t, x, 3, 3, 4, api.Op{{Keep: 4 + len(half)}, {Put: half[4:]}})
	if x.Text() != four+half+half[4:] {
		t.Errorf("%q", x.Text())
	}
}

func TestLast(t *testing.T) {
	x := made(t, "abc")
	for _, client := range []int{0, 1, -1, math.MaxInt, math.MinInt} {
		wantLast(t, "none came", x, client, 0, api.OK)
	}
	take(t, x, 1, 1, 0, op("k3"))
	refuse(t, "wrong", x, -1, math.MaxInt, 9, op("k3"), api.ErrRange)
	refuse(t, "wrong", x, 0, 7, 0, op("k3 k1"), api.ErrRange)
	wantLast(t, "none came", x, 2, 0, api.OK)
	wantLast(t, "one came", x, 1, 1, api.OK)
	wantLast(t, "one came", x, -1, math.MaxInt, api.ErrRange)
	// A number may leave others out; behind an error comes one that is right, and the other way round.
	take(t, x, 0, 70, 1, op("k3 px"))
	refuse(t, "wrong", x, 0, 71, 2, api.Op{{}}, api.ErrArg)
	take(t, x, 0, 72, 2, op("k4"))
	wantLast(t, "its own", x, 1, 1, api.OK)
	wantLast(t, "its own", x, -1, math.MaxInt, api.ErrRange)
}

// An operation whose number came ahead is not done once more, and told the same, whatever it is now, and whatever was done meanwhile.
func TestToldTwice(t *testing.T) {
	x := made(t, two+"a")
	take(t, x, 1, 5, 0, op("px k3"))
	again(t, "told twice", x, 1, 5, 0, op("px k3"), api.OK)
	again(t, "another one of that number", x, 1, 5, 1, op("k4 py"), api.OK)
	again(t, "a wrong one of that number", x, 1, 5, 99, api.Op{{}}, api.OK)
	for _, id := range []int{4, 3, 1} {
		again(t, "below", x, 1, id, 1, op("k4"), api.ErrNone)
		again(t, "below, and wrong", x, 1, id, 99, api.Op{{}}, api.ErrNone)
	}
	again(t, "told twice, behind one below", x, 1, 5, 0, op("px k3"), api.OK)
	// Of other clients' numbers it hangs on nothing.
	refuse(t, "not yet", x, 2, 3, 2, op("k4"), api.ErrRange)
	take(t, x, 1, 6, 1, op("k4"))
	again(t, "it would be right now", x, 2, 3, 2, op("k4"), api.ErrRange)
	again(t, "below", x, 2, 2, 2, op("k4"), api.ErrNone)
	take(t, x, 2, 4, 2, op("d4"))
	refuse(t, "no room", x, 3, 1, 0, op("k3 p"+strings.Repeat("x", api.MaxDoc+1)), api.ErrFull)
	again(t, "no room, again", x, 3, 1, 3, nil, api.ErrFull)
	take(t, x, 3, 2, 3, nil)
	again(t, "no room, older", x, 3, 1, 3, nil, api.ErrNone)
	if x.Rev() != 4 || x.Text() != "" {
		t.Errorf("Rev %d, %q", x.Rev(), x.Text())
	}
}

// Of a number below 1 nothing is promised, but that it ends (P1).
func TestNoNumber(t *testing.T) {
	for _, id := range []int{0, -1, math.MinInt} {
		x := made(t, "abc")
		for range 2 {
			x.Take(1, id, 0, op("k3 px"))
			x.Take(1, id, math.MaxInt, api.Op{{}})
		}
		take(t, x, 2, 1, x.Rev(), api.Op{{Keep: len(x.Text())}, {Put: "y"}})
		x.Take(2, id, 0, nil)
		wantLast(t, "another client", x, 2, 1, api.OK)
	}
}

// Many clients, numbers that come once more and too late, revisions of long ago, and all errors among what is right.
func TestTakeOfMany(t *testing.T) {
	d := rand.New(rand.NewSource(19))
	count := map[api.Errno]int{}
	for range 100 {
		s := anyText(d, 10)
		if d.Intn(4) == 0 {
			s += strings.Repeat("a", api.MaxDoc-40-d.Intn(4))
		}
		x, m := made(t, s), modelOf(s)
		for range 40 {
			client := d.Intn(4) - 1
			id := max(1, m.last[client]+1-d.Intn(8)/6*d.Intn(3)+d.Intn(9)/8*5)
			rev := d.Intn(len(m.texts))
			o := anyWrong(d, anyOp(d, m.texts[rev], d.Intn(8) > 0))
			rev += d.Intn(20) / 19 * 50
			want := m.take(client, id, rev, o)
			count[want]++
			wantError(t, "Take", x.Take(client, id, rev, o), want, -1)
			wantServer(t, "behind Take", x, m.text(), m.done...)
			for c := -2; c < 4; c++ {
				wantLast(t, "behind Take", x, c, m.last[c], m.told[[2]int{c, m.last[c]}])
			}
			if t.Failed() {
				t.FailNow()
			}
		}
	}
	for _, e := range []api.Errno{api.OK, api.ErrNone, api.ErrRange, api.ErrArg, api.ErrForm, api.ErrOrder, api.ErrFull} {
		if count[e] < 20 {
			t.Errorf("error %d was told %d times", e, count[e])
		}
	}
}

// anyWrong is an operation that is spoilt at times, or puts much.
func anyWrong(d *rand.Rand, op api.Op) api.Op {
	switch d.Intn(10) {
	case 0:
		return append(op, []api.Part{{}, {Keep: -1}, {Keep: 1, Put: "x"}, {Put: "\xC3"}, {Keep: 1}, {Drop: 3}}[d.Intn(6)])
	case 1:
		return append(op, api.Part{Put: strings.Repeat(two, 300)})
	}
	return op
}
