// Package mask represents sets of the numbers 0 to 63 as the bits of one word.
package mask

import (
	"math/bits"

	"clearance/api"
)

// size is the number of numbers that a set can contain: as many as a relation has points, and as a word has bits.
const size = api.MaxPoints

// Of returns the set of those numbers of the list that are in 0 to 63.
func Of(l ...int) uint64 {
	var s uint64
	for _, i := range l {
		s = With(s, i)
	}
	return s
}

// Has reports whether i is an element of s.
func Has(s uint64, i int) bool {
	return s&single(i) != 0
}

// With returns s with i, or s itself if i can be no element.
func With(s uint64, i int) uint64 {
	return s | single(i)
}

// Without returns s without i.
func Without(s uint64, i int) uint64 {
	return s &^ single(i)
}

// Sub reports whether a is a subset of b.
func Sub(a, b uint64) bool {
	return a&^b == 0
}

// Count returns the number of elements of s.
func Count(s uint64) int {
	return bits.OnesCount64(s)
}

// Least returns the least element of s, or false if there is none.
func Least(s uint64) (int, bool) {
	if s == 0 {
		return 0, false
	}
	return bits.TrailingZeros64(s), true
}

// Nth returns the element of s that is greater than exactly k others, or false if there is none.
func Nth(s uint64, k int) (int, bool) {
	// This bound comes first: a large k must not cost as many steps.
	if k < 0 || k >= Count(s) {
		return 0, false
	}
	for range k {
		s = withoutLeast(s)
	}
	return Least(s)
}

// List returns the elements of s in ascending order.
func List(s uint64) []int {
	l := make([]int, 0, Count(s))
	Each(s, func(i int) bool {
		l = append(l, i)
		return true
	})
	return l
}

// Below returns the set of the numbers 0 to n - 1, as far as they can be elements.
func Below(n int) uint64 {
	// A negative shift count would panic.
	if n < 1 {
		return 0
	}
	if n >= size {
		return ^uint64(0)
	}
	return single(n) - 1
}

// Each calls do with the elements of s in ascending order until do returns false.
func Each(s uint64, do func(i int) bool) {
	// A nil function has nothing to be told, and calling it would panic.
	if do == nil {
		return
	}
	for s != 0 {
		if !do(bits.TrailingZeros64(s)) {
			return
		}
		s = withoutLeast(s)
	}
}

// single returns the set of i alone. It is empty if i can be no element, so that such an i neither adds nor removes anything.
func single(i int) uint64 {
	if i < 0 || i >= size {
		return 0
	}
	return 1 << i
}

// withoutLeast returns s without its least element: subtracting 1 changes no higher bit.
func withoutLeast(s uint64) uint64 {
	return s & (s - 1)
}
