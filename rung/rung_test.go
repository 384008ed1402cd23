package rung_test

import (
	"math"
	"slices"
	"testing"

	"clearance/mask"
	"clearance/rung"
)

const all = math.MaxUint64

// sizes returns every number of levels that a chain can have, and numbers below and above them.
func sizes() []int {
	l := []int{math.MinInt, math.MinInt + 1, -64, 127, 128, 1 << 32, math.MaxInt - 1, math.MaxInt}
	for n := -3; n < 70; n++ {
		l = append(l, n)
	}
	return l
}

// chain returns the words of a chain of n levels, each made by doubling the one before it, which the package does not do; none if there is no such chain.
func chain(n int) []uint64 {
	if n < 1 || n > 64 {
		return nil
	}
	l := []uint64{0}
	for len(l) < n {
		l = append(l, 2*l[len(l)-1]+1)
	}
	return l
}

// words returns every word that a level can have, words that differ from one of these by a bit, and mixed ones.
func words() []uint64 {
	l := []uint64{all, all - 1, 0xaaaaaaaaaaaaaaaa, 0x5555555555555555, 0xffffffff00000000, 1<<63 | 1}
	x := uint64(1)
	for _, w := range chain(64) {
		x = x*6364136223846793005 + 1442695040888963407
		l = append(l, w, x)
		for i := range 64 {
			l = append(l, w^1<<i)
		}
	}
	return l
}

// P4.1: Word, Level, Right, Top.

func TestWord(t *testing.T) {
	for _, n := range sizes() {
		levels := chain(n)
		for _, k := range sizes() {
			w, is := rung.Word(n, k)
			if k < 0 || k >= len(levels) {
				if w != 0 || is {
					t.Errorf("Word(%d, %d) = %#x, %v", n, k, w, is)
				}
				continue
			}
			if w != levels[k] || !is {
				t.Errorf("Word(%d, %d) = %#x, %v, want %#x", n, k, w, is, levels[k])
			}
		}
	}
}

func TestWordAtTheLimits(t *testing.T) {
	for _, c := range []struct {
		n, k int
		want uint64
		is   bool
	}{
		{1, 0, 0, true},
		{1, 1, 0, false},
		{1, -1, 0, false},
		{2, 1, 1, true},
		{4, 0, 0, true},
		{4, 1, 1, true},
		{4, 2, 3, true},
		{4, 3, 7, true},
		{4, 4, 0, false},
		{63, 62, all >> 2, true},
		{63, 63, 0, false},
		{64, 0, 0, true},
		{64, 63, all >> 1, true},
		{64, 64, 0, false},
		{65, 0, 0, false},
		{65, 64, 0, false},
		{0, 0, 0, false},
		{0, -1, 0, false},
		{-1, -2, 0, false},
		{math.MinInt, math.MaxInt, 0, false},
		{math.MaxInt, math.MinInt, 0, false},
		{math.MaxInt, 3, 0, false},
	} {
		if got, is := rung.Word(c.n, c.k); got != c.want || is != c.is {
			t.Errorf("Word(%d, %d) = %#x, %v, want %#x, %v", c.n, c.k, got, is, c.want, c.is)
		}
	}
}

func TestLevelAndRight(t *testing.T) {
	for _, n := range sizes() {
		levels := chain(n)
		for _, w := range words() {
			want := slices.Index(levels, w)
			if got := rung.Right(n, w); got != (want >= 0) {
				t.Errorf("Right(%d, %#x) = %v", n, w, got)
			}
			k, is := rung.Level(n, w)
			if want < 0 {
				if k != 0 || is {
					t.Errorf("Level(%d, %#x) = %d, %v", n, w, k, is)
				}
				continue
			}
			if k != want || !is {
				t.Errorf("Level(%d, %#x) = %d, %v, want %d", n, w, k, is, want)
			}
		}
	}
}

func TestLevelAndRightOfSmallWords(t *testing.T) {
	for n := range 12 {
		levels := chain(n)
		for w := range uint64(4096) {
			want := slices.Index(levels, w)
			if got := rung.Right(n, w); got != (want >= 0) {
				t.Errorf("Right(%d, %#x) = %v", n, w, got)
			}
			if k, is := rung.Level(n, w); is != (want >= 0) || k != max(want, 0) {
				t.Errorf("Level(%d, %#x) = %d, %v, want %d", n, w, k, is, want)
			}
		}
	}
}

func TestLevelAndRightAtTheLimits(t *testing.T) {
	for _, c := range []struct {
		n    int
		w    uint64
		want int
		is   bool
	}{
		{1, 0, 0, true},
		{1, 1, 0, false},
		{4, 7, 3, true},
		{4, 15, 0, false},
		{4, 2, 0, false},
		{4, 6, 0, false},
		{4, 5, 0, false},
		{4, 1 << 63, 0, false},
		{4, 7 | 1<<63, 0, false},
		{63, all >> 2, 62, true},
		{63, all >> 1, 0, false},
		{64, all >> 1, 63, true},
		{64, all, 0, false},
		{64, all - 1, 0, false},
		{64, 1 << 63, 0, false},
		{65, 0, 0, false},
		{65, 1, 0, false},
		{65, all, 0, false},
		{0, 0, 0, false},
		{-1, 0, 0, false},
		{math.MinInt, 0, 0, false},
		{math.MaxInt, 1, 0, false},
	} {
		if got, is := rung.Level(c.n, c.w); got != c.want || is != c.is {
			t.Errorf("Level(%d, %#x) = %d, %v, want %d, %v", c.n, c.w, got, is, c.want, c.is)
		}
		if got := rung.Right(c.n, c.w); got != c.is {
			t.Errorf("Right(%d, %#x) = %v", c.n, c.w, got)
		}
	}
}

func TestTop(t *testing.T) {
	for _, n := range sizes() {
		var want uint64
		if levels := chain(n); levels != nil {
			want = levels[n-1]
		}
		if got := rung.Top(n); got != want {
			t.Errorf("Top(%d) = %#x, want %#x", n, got, want)
		}
	}
}

func TestTopAtTheLimits(t *testing.T) {
	for _, c := range []struct {
		n    int
		want uint64
	}{
		{math.MinInt, 0},
		{-1, 0},
		{0, 0},
		{1, 0},
		{2, 1},
		{4, 7},
		{63, all >> 2},
		{64, all >> 1},
		{65, 0},
		{math.MaxInt, 0},
	} {
		if got := rung.Top(c.n); got != c.want {
			t.Errorf("Top(%d) = %#x, want %#x", c.n, got, c.want)
		}
	}
}

// P4.2: the laws.

func TestLaws(t *testing.T) {
	for n := 1; n <= 64; n++ {
		for i := range n {
			for j := range n {
				a, first := rung.Word(n, i)
				b, second := rung.Word(n, j)
				if !first || !second {
					t.Fatalf("a chain of %d levels lacks level %d or %d", n, i, j)
				}
				if mask.Sub(a, b) != (i <= j) {
					t.Errorf("in a chain of %d levels, the words of %d and %d have the wrong order", n, i, j)
				}
				if k, is := rung.Level(n, a|b); k != max(i, j) || !is {
					t.Errorf("in a chain of %d levels, the union of %d and %d is %d, %v", n, i, j, k, is)
				}
				if k, is := rung.Level(n, a&b); k != min(i, j) || !is {
					t.Errorf("in a chain of %d levels, the intersection of %d and %d is %d, %v", n, i, j, k, is)
				}
			}
		}
	}
}

func TestLevelsAndWordsAreInverse(t *testing.T) {
	for _, n := range sizes() {
		for _, k := range sizes() {
			if w, is := rung.Word(n, k); is {
				if back, was := rung.Level(n, w); back != k || !was || !rung.Right(n, w) || !mask.Sub(w, rung.Top(n)) {
					t.Errorf("in a chain of %d levels, the word of %d is read as %d, %v", n, k, back, was)
				}
			}
		}
		for _, w := range words() {
			if k, is := rung.Level(n, w); is {
				if back, was := rung.Word(n, k); back != w || !was {
					t.Errorf("in a chain of %d levels, the level of %#x has the word %#x, %v", n, w, back, was)
				}
			}
		}
	}
}
