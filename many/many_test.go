package many_test

// Promise 11.1: All.

import (
	"fmt"
	"math"
	"slices"
	"strings"
	"sync"
	"testing"

	"rosetta/api"
	"rosetta/desk"
	"rosetta/many"
	"rosetta/plain"
)

// someTexts are sessions of which no two are answered alike, some of them much longer than others.
func someTexts(n int) []string {
	var l []string
	for i := range n {
		who := fmt.Sprint(i % 3)
		s := fmt.Sprint("edit ", who, " p", i, "\n")
		s += strings.Repeat("send "+who+"\ntwice 0\n", i%4*50)
		s += "quiet\nserver\ntext 0\ncount \xFF\n" + strings.Repeat("x", i%3)
		l = append(l, s)
	}
	return l
}

func TestAll(t *testing.T) {
	for _, n := range []int{0, 1, 2, 3, 15, 16, 17, 49, 50} {
		texts := someTexts(n)
		var want []string
		for _, s := range texts {
			want = append(want, desk.Session(s))
		}
		for workers := 1; workers <= 16; workers++ {
			got, err := many.All(texts, workers)
			if err != nil || !slices.Equal(got, want) {
				t.Errorf("%d texts, %d workers: %q, %v", n, workers, got, err)
			}
		}
		if !slices.Equal(texts, someTexts(n)) {
			t.Errorf("%d texts: they were written into", n)
		}
	}
}

// What is wrong with a text is its own answer, not an error of all.
func TestAllOfWhatIsWrong(t *testing.T) {
	got, err := many.All([]string{"", "x", strings.Repeat("\n", api.MaxText+1), "\xFF\n", "help x\n\nmany"}, 3)
	want := []string{"ok\n", "error 3\n", "error 4\n", "error 3\n", "error 3\nok\n0\n"}
	if err != nil || !slices.Equal(got, want) {
		t.Errorf("%q, %v, not %q", got, err, want)
	}
}

func TestAllErrors(t *testing.T) {
	for _, c := range []struct{ texts, workers int }{
		{51, 1}, {51, 16}, {1000, 8}, {51, 0}, {51, 17},
		{0, 0}, {1, 0}, {50, 0}, {0, 17}, {1, 17}, {50, 17},
		{1, -1}, {1, math.MinInt}, {1, math.MaxInt}, {0, -1},
	} {
		got, err := many.All(make([]string, c.texts), c.workers)
		if e, place := plain.Place(err); e != api.ErrLimit || place != -1 || got != nil {
			t.Errorf("%d texts, %d workers: %v, error %d at %d", c.texts, c.workers, got, e, place)
		}
	}
}

func TestNoTexts(t *testing.T) {
	for _, texts := range [][]string{nil, {}} {
		if got, err := many.All(texts, 16); err != nil || len(got) != 0 {
			t.Errorf("%q, %v", got, err)
		}
	}
}

// What comes out is the caller's; what stands behind a list's length is not asked, nor written.
func TestListsAreTheCallers(t *testing.T) {
	texts := []string{"many", "help", "x", "y"}
	one, err := many.All(texts[:2], 2)
	if err != nil || len(one) != 2 {
		t.Fatalf("%q, %v", one, err)
	}
	if texts[2] != "x" || texts[3] != "y" {
		t.Errorf("behind the list's length: %q", texts)
	}
	one[0] = "written"
	again, err := many.All(texts[:2], 2)
	if err != nil || again[0] != "0\n" || texts[0] != "many" {
		t.Errorf("written into an answer: %q, %q, %v", again, texts, err)
	}
}

// Several may be asked at the same time.
func TestAllAtTheSameTime(t *testing.T) {
	texts := someTexts(12)
	want, err := many.All(texts, 1)
	if err != nil {
		t.Fatal(err)
	}
	var busy sync.WaitGroup
	for workers := 1; workers <= 8; workers++ {
		busy.Go(func() {
			if got, err := many.All(texts, workers); err != nil || !slices.Equal(got, want) {
				t.Errorf("%d workers: another answer, %v", workers, err)
			}
		})
	}
	busy.Wait()
}
