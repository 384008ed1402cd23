package mask_test

import (
	"math"
	"slices"
	"testing"

	"clearance/mask"
)

const all = math.MaxUint64

// words returns sets of every size: the limits, each number alone, each number missing, and mixed ones.
func words() []uint64 {
	w := []uint64{0, all, 9, 0x5555555555555555, 0xaaaaaaaaaaaaaaaa, 0xffffffff00000000, 1<<63 | 1}
	x := uint64(1)
	for i := range 64 {
		x = x*6364136223846793005 + 1442695040888963407
		w = append(w, 1<<i, all-1<<i, x, x>>i)
	}
	return w
}

// numbers returns all elements that a set can have, and numbers below and above them.
func numbers() []int {
	l := []int{math.MinInt, math.MinInt + 1, -256, -64, 127, 128, 256, 1 << 20, math.MaxInt - 1, math.MaxInt}
	for i := -3; i < 70; i++ {
		l = append(l, i)
	}
	return l
}

// elements finds the elements of a set by halving, which the package does not do.
func elements(s uint64) []int {
	var l []int
	for i := range 64 {
		if s%2 == 1 {
			l = append(l, i)
		}
		s /= 2
	}
	return l
}

// word adds the powers of two of different numbers from 0 to 63.
func word(l []int) uint64 {
	var s uint64
	for _, i := range l {
		p := uint64(1)
		for range i {
			p *= 2
		}
		s += p
	}
	return s
}

// P1.1: Of, Has, With, Without.

func TestOf(t *testing.T) {
	for _, c := range []struct {
		list []int
		want uint64
	}{
		{nil, 0},
		{[]int{}, 0},
		{[]int{3, 0, 70}, 9},
		{[]int{0}, 1},
		{[]int{63}, 1 << 63},
		{[]int{63, 0}, 1<<63 + 1},
		{[]int{5, 5, 5}, 32},
		{[]int{2, 1, 2, 1}, 6},
		{[]int{-1, 64}, 0},
		{[]int{-64, -63, 65, 128}, 0},
		{[]int{math.MinInt, math.MaxInt}, 0},
		{[]int{math.MinInt, 7, math.MaxInt, -1, 8, 64}, 384},
		{elements(all), all},
	} {
		if got := mask.Of(c.list...); got != c.want {
			t.Errorf("Of(%v) = %#x, want %#x", c.list, got, c.want)
		}
	}
	if got := mask.Of(); got != 0 {
		t.Errorf("Of() = %#x", got)
	}
}

func TestOfReadsOnlyItsList(t *testing.T) {
	memory := []int{4, 2, 4, 9, 11}
	if got := mask.Of(memory[:3]...); got != 20 {
		t.Errorf("Of = %#x, want 0x14", got)
	}
	if !slices.Equal(memory, []int{4, 2, 4, 9, 11}) {
		t.Errorf("Of changed its list to %v", memory)
	}
}

func TestOfLongList(t *testing.T) {
	var l []int
	for i := range 100000 {
		l = append(l, i-50000)
	}
	if got := mask.Of(l...); got != all {
		t.Errorf("Of = %#x", got)
	}
}

func TestHasWithWithout(t *testing.T) {
	for _, s := range words() {
		old := elements(s)
		for _, i := range numbers() {
			if got, want := mask.Has(s, i), slices.Contains(old, i); got != want {
				t.Errorf("Has(%#x, %d) = %v", s, i, got)
			}
			others := slices.DeleteFunc(slices.Clone(old), func(e int) bool { return e == i })
			less := word(others)
			more := s
			if i >= 0 && i <= 63 {
				more = word(append(others, i))
			}
			if got := mask.With(s, i); got != more {
				t.Errorf("With(%#x, %d) = %#x, want %#x", s, i, got, more)
			}
			if got := mask.Without(s, i); got != less {
				t.Errorf("Without(%#x, %d) = %#x, want %#x", s, i, got, less)
			}
		}
	}
}

func TestHasWithWithoutAtTheLimits(t *testing.T) {
	for _, i := range []int{math.MinInt, -65, -64, -1, 64, 65, 127, 128, math.MaxInt} {
		for _, s := range []uint64{0, 9, all} {
			if mask.Has(s, i) || mask.With(s, i) != s || mask.Without(s, i) != s {
				t.Errorf("%d is treated as an element of %#x", i, s)
			}
		}
	}
	for _, i := range []int{0, 63} {
		if mask.Has(0, i) || !mask.Has(all, i) {
			t.Errorf("Has is wrong about %d", i)
		}
		if mask.With(0, i) != 1<<i || mask.With(all, i) != all {
			t.Errorf("With is wrong about %d", i)
		}
		if mask.Without(0, i) != 0 || mask.Without(all, i) != all-1<<i {
			t.Errorf("Without is wrong about %d", i)
		}
	}
}

// P1.2: Sub, Count, Below.

func TestSub(t *testing.T) {
	for _, a := range words() {
		for _, b := range words() {
			want := true
			for _, i := range elements(a) {
				want = want && slices.Contains(elements(b), i)
			}
			if got := mask.Sub(a, b); got != want {
				t.Errorf("Sub(%#x, %#x) = %v", a, b, got)
			}
		}
	}
}

func TestSubAtTheLimits(t *testing.T) {
	for _, c := range []struct {
		a, b uint64
		want bool
	}{
		{0, 0, true},
		{0, all, true},
		{all, 0, false},
		{all, all, true},
		{1 << 63, all, true},
		{1 << 63, all >> 1, false},
		{1, all - 1, false},
		{9, 11, true},
		{11, 9, false},
		{9, 6, false},
	} {
		if got := mask.Sub(c.a, c.b); got != c.want {
			t.Errorf("Sub(%#x, %#x) = %v", c.a, c.b, got)
		}
	}
}

func TestCount(t *testing.T) {
	for _, s := range words() {
		if got, want := mask.Count(s), len(elements(s)); got != want {
			t.Errorf("Count(%#x) = %d, want %d", s, got, want)
		}
	}
	if mask.Count(0) != 0 || mask.Count(all) != 64 || mask.Count(1<<63) != 1 {
		t.Error("Count is wrong at the limits")
	}
}

func TestBelow(t *testing.T) {
	for _, n := range numbers() {
		var want uint64
		for i := range 64 {
			if i < n {
				want |= 1 << i
			}
		}
		if got := mask.Below(n); got != want {
			t.Errorf("Below(%d) = %#x, want %#x", n, got, want)
		}
	}
}

func TestBelowAtTheLimits(t *testing.T) {
	for _, c := range []struct {
		n    int
		want uint64
	}{
		{math.MinInt, 0},
		{-1, 0},
		{0, 0},
		{1, 1},
		{2, 3},
		{62, all >> 2},
		{63, all >> 1},
		{64, all},
		{65, all},
		{math.MaxInt, all},
	} {
		if got := mask.Below(c.n); got != c.want {
			t.Errorf("Below(%d) = %#x, want %#x", c.n, got, c.want)
		}
	}
}

// P1.3: Least, Nth, List, Each.

func TestLeast(t *testing.T) {
	for _, s := range words() {
		l := elements(s)
		got, is := mask.Least(s)
		if len(l) == 0 {
			if got != 0 || is {
				t.Errorf("Least(%#x) = %d, %v", s, got, is)
			}
			continue
		}
		if got != l[0] || !is {
			t.Errorf("Least(%#x) = %d, %v, want %d", s, got, is, l[0])
		}
	}
}

func TestNth(t *testing.T) {
	for _, s := range words() {
		l := elements(s)
		for _, k := range numbers() {
			got, is := mask.Nth(s, k)
			if k < 0 || k >= len(l) {
				if got != 0 || is {
					t.Errorf("Nth(%#x, %d) = %d, %v", s, k, got, is)
				}
				continue
			}
			if got != l[k] || !is {
				t.Errorf("Nth(%#x, %d) = %d, %v, want %d", s, k, got, is, l[k])
			}
		}
	}
}

func TestNthAtTheLimits(t *testing.T) {
	for _, k := range []int{math.MinInt, -1, 64, 65, math.MaxInt} {
		for _, s := range []uint64{0, 9, all} {
			if got, is := mask.Nth(s, k); got != 0 || is {
				t.Errorf("Nth(%#x, %d) = %d, %v", s, k, got, is)
			}
		}
	}
	if got, is := mask.Nth(9, 1); got != 3 || !is {
		t.Errorf("Nth(9, 1) = %d, %v", got, is)
	}
	if got, is := mask.Nth(9, 2); got != 0 || is {
		t.Errorf("Nth(9, 2) = %d, %v", got, is)
	}
	if got, is := mask.Nth(all, 63); got != 63 || !is {
		t.Errorf("Nth(all, 63) = %d, %v", got, is)
	}
}

func TestList(t *testing.T) {
	for _, s := range words() {
		if got, want := mask.List(s), elements(s); !slices.Equal(got, want) {
			t.Errorf("List(%#x) = %v, want %v", s, got, want)
		}
	}
	if got := mask.List(9); !slices.Equal(got, []int{0, 3}) {
		t.Errorf("List(9) = %v", got)
	}
	if got := mask.List(0); len(got) != 0 {
		t.Errorf("List(0) = %v", got)
	}
}

func TestListIsNewMemory(t *testing.T) {
	for _, s := range words() {
		first, second := mask.List(s), mask.List(s)
		for i := range first {
			first[i] = -1
		}
		if third := mask.List(s); !slices.Equal(second, elements(s)) || !slices.Equal(third, elements(s)) {
			t.Errorf("lists of %#x share memory", s)
		}
	}
}

func TestEach(t *testing.T) {
	for _, s := range words() {
		var got []int
		mask.Each(s, func(i int) bool {
			got = append(got, i)
			return true
		})
		if want := elements(s); !slices.Equal(got, want) {
			t.Errorf("Each(%#x) passes %v, want %v", s, got, want)
		}
	}
}

func TestEachStopsEarly(t *testing.T) {
	for _, s := range words() {
		l := elements(s)
		for stop := range l {
			var got []int
			mask.Each(s, func(i int) bool {
				got = append(got, i)
				return len(got) <= stop
			})
			if want := l[:stop+1]; !slices.Equal(got, want) {
				t.Errorf("Each(%#x) that is stopped after %d passes %v, want %v", s, stop+1, got, want)
			}
		}
	}
}

func TestEachWithoutElementsOrFunction(t *testing.T) {
	mask.Each(0, func(int) bool {
		t.Error("Each passes an element of the empty set")
		return true
	})
	for _, s := range []uint64{0, 1, all} {
		mask.Each(s, nil)
	}
}

// A function may use the package, and the set that it was passed an element of.
func TestEachWithinEach(t *testing.T) {
	s := mask.Of(1, 4, 63)
	var got []int
	mask.Each(s, func(i int) bool {
		s = mask.Without(s, 63)
		mask.Each(s, func(j int) bool {
			got = append(got, i*100+j)
			return j < i
		})
		return true
	})
	if want := []int{101, 401, 404, 6301, 6304}; !slices.Equal(got, want) {
		t.Errorf("got %v, want %v", got, want)
	}
}

// P1.4: the laws.

func TestLaws(t *testing.T) {
	for _, s := range words() {
		if got := mask.Of(mask.List(s)...); got != s {
			t.Errorf("Of(List(%#x)) = %#x", s, got)
		}
		for _, super := range words() {
			if !mask.Sub(s, s|super) {
				t.Errorf("%#x is no subset of %#x", s, s|super)
			}
			for _, i := range numbers() {
				if mask.Has(s, i) && mask.Sub(s, super) && !mask.Has(super, i) {
					t.Errorf("%d is an element of %#x, but not of %#x", i, s, super)
				}
				if mask.Has(s, i) && !mask.Has(s|super, i) {
					t.Errorf("%d is an element of %#x, but not of %#x", i, s, s|super)
				}
			}
		}
	}
}
