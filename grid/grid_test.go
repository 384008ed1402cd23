package grid_test

import (
	"math"
	"testing"

	"clearance/api"
	"clearance/grid"
	"clearance/relate"
)

const all uint64 = math.MaxUint64

// below reports whether i is below j in r, as chapter 3 defines it: i's row has the bit of j.
func below(r api.Rel, i, j int) bool {
	return r.Up[i]>>j&1 == 1
}

// excludes reports whether bit 8 * o + x of w is 1.
func excludes(w uint64, o, x int) bool {
	return w>>(8*o+x)&1 == 1
}

// top returns the word with all bits that correspond to the principals of r.
func top(r api.Rel) uint64 {
	var w uint64
	for o := range r.N {
		for x := range r.N {
			w |= 1 << (8*o + x)
		}
	}
	return w
}

// forced returns the bits that a closed word has if it has the one by which p excludes y.
func forced(r api.Rel, p, y int) uint64 {
	var w uint64
	for o := range r.N {
		for x := range r.N {
			if below(r, o, p) && below(r, x, y) {
				w |= 1 << (8*o + x)
			}
		}
	}
	return w
}

// least returns the least closed word by adding one forced bit after the other until none is missing, which the package does not do.
func least(r api.Rel, w uint64) uint64 {
	w &= top(r)
	for {
		next := w
		for p := range r.N {
			for y := range r.N {
				if excludes(w, p, y) {
					next |= forced(r, p, y)
				}
			}
		}
		if next == w {
			return w
		}
		w = next
	}
}

// rule returns the word of one owner's rule, by the words of the chapter.
func rule(r api.Rel, owner int, readers uint64) uint64 {
	var w uint64
	for x := range r.N {
		mayRead := false
		for reader := range r.N {
			mayRead = mayRead || readers>>reader&1 == 1 && below(r, reader, x)
		}
		if !mayRead {
			w |= 1 << (8*owner + x)
		}
	}
	return least(r, w)
}

// readers returns the set of those that the owner does not exclude.
func readers(r api.Rel, w uint64, owner int) uint64 {
	var s uint64
	for x := range r.N {
		if !excludes(w, owner, x) {
			s |= 1 << x
		}
	}
	return s
}

// owners returns the set of those that exclude someone.
func owners(r api.Rel, w uint64) uint64 {
	var s uint64
	for o := range r.N {
		if readers(r, w, o) != 1<<r.N-1 {
			s |= 1 << o
		}
	}
	return s
}

// numbers returns a function that makes one number after the other, the same ones in each test.
func numbers() func() uint64 {
	x := uint64(88172645463325252)
	return func() uint64 {
		x ^= x << 13
		x ^= x >> 7
		x ^= x << 17
		return x
	}
}

// small returns every closed relation of 1 to 3 principals.
func small() []api.Rel {
	var l []api.Rel
	for n := 1; n <= 3; n++ {
		for pairs := range 1 << (n * n) {
			r := api.Rel{N: n}
			for i := range n {
				r.Up[i] = uint64(pairs >> (n * i) & (1<<n - 1))
			}
			if relate.Closed(r) {
				l = append(l, r)
			}
		}
	}
	return l
}

// large returns closed relations of 4 to 8 principals: without pairs, with all of them, a chain up and down, and mixed ones.
func large() []api.Rel {
	next := numbers()
	var l []api.Rel
	for n := 4; n <= 8; n++ {
		full, up, down := relate.New(n), relate.New(n), relate.New(n)
		for i := range n {
			full.Up[i] = 1<<n - 1
			up = relate.With(up, i, i+1)
			down = relate.With(down, i, i-1)
		}
		l = append(l, relate.Closure(relate.New(n)), full, relate.Closure(up), relate.Closure(down))
		for pairs := 1; pairs < 2*n; pairs++ {
			r := relate.New(n)
			for range pairs {
				r = relate.With(r, int(next()%uint64(n)), int(next()%uint64(n)))
			}
			l = append(l, relate.Closure(r))
		}
	}
	return l
}

func relations() []api.Rel {
	return append(small(), large()...)
}

// soiled returns r with all of its ignored bits set.
func soiled(r api.Rel) api.Rel {
	for i := range r.Up {
		if i < r.N {
			r.Up[i] |= all << r.N
		} else {
			r.Up[i] = all
		}
	}
	return r
}

// words returns every single bit, the limits, and mixed words with few and with many bits.
func words() []uint64 {
	next := numbers()
	l := []uint64{0, all, 1<<63 | 1, 0x8040201008040201, 0x0102040810204080, 0xff, 0xff << 56, 0x0101010101010101}
	for i := range 64 {
		l = append(l, 1<<i)
	}
	for range 30 {
		l = append(l, next(), next()&next()&next(), next()&next()&next()&next()&next(), next()|next()|next())
	}
	return l
}

// wrong returns relations that are none of principals.
func wrong() []api.Rel {
	two := relate.Of(2, api.Pair{Low: 0, High: 1})
	loops := relate.Of(3, api.Pair{Low: 0, High: 0}, api.Pair{Low: 1, High: 1}, api.Pair{Low: 2, High: 2})
	l := []api.Rel{
		two,
		relate.With(relate.With(loops, 0, 1), 1, 2),
		relate.Of(3, api.Pair{Low: 0, High: 0}, api.Pair{Low: 1, High: 1}),
		relate.New(1),
		relate.New(8),
	}
	for _, n := range []int{math.MinInt, -8, -1, 0, 9, 10, 16, 63, 64, 65, 128, math.MaxInt} {
		l = append(l, relate.Closure(relate.New(n)))
		// Each point is below each one: a closed relation, but of too many points or of none.
		r := soiled(api.Rel{})
		r.N = n
		l = append(l, r)
	}
	return l
}

// P5.1: Right, Close, Closed, Top.

func TestRight(t *testing.T) {
	for _, r := range relations() {
		if !grid.Right(r) || !grid.Right(soiled(r)) {
			t.Errorf("Right(%d, %b) is false", r.N, r.Up[:r.N])
		}
	}
	for _, r := range wrong() {
		if grid.Right(r) {
			t.Errorf("Right(%d, %b) is true", r.N, r.Up)
		}
	}
}

func TestRightOfEveryRelationOfThree(t *testing.T) {
	right := 0
	for pairs := range 1 << 9 {
		r := api.Rel{N: 3}
		for i := range 3 {
			r.Up[i] = uint64(pairs >> (3 * i) & 7)
		}
		if grid.Right(r) {
			right++
		}
	}
	// There are as many preorders on three points.
	if right != 29 {
		t.Errorf("%d relations of 3 points are right, want 29", right)
	}
}

func TestTop(t *testing.T) {
	for _, r := range relations() {
		if got := grid.Top(soiled(r)); got != top(r) {
			t.Errorf("Top(%d) = %#x, want %#x", r.N, got, top(r))
		}
	}
	for n, want := range []uint64{0, 1, 0x0303, 0x070707, 0x0f0f0f0f, 0x1f1f1f1f1f, 0x3f3f3f3f3f3f, 0x7f7f7f7f7f7f7f, all, 0} {
		if got := grid.Top(relate.Closure(relate.New(n))); got != want {
			t.Errorf("Top of %d principals = %#x, want %#x", n, got, want)
		}
	}
}

func TestCloseAndClosed(t *testing.T) {
	for _, r := range relations() {
		for _, w := range words() {
			for _, v := range []uint64{w, w & top(r), least(r, w), least(r, w) | w} {
				want := least(r, v)
				if got := grid.Close(r, v); got != want {
					t.Errorf("Close(%b, %#x) = %#x, want %#x", r.Up[:r.N], v, got, want)
				}
				if got := grid.Close(soiled(r), v); got != want {
					t.Errorf("Close(%b, %#x) with ignored bits = %#x, want %#x", r.Up[:r.N], v, got, want)
				}
				if got := grid.Closed(r, v); got != (v == want) {
					t.Errorf("Closed(%b, %#x) = %v", r.Up[:r.N], v, got)
				}
				if got := grid.Closed(soiled(r), v); got != (v == want) {
					t.Errorf("Closed(%b, %#x) with ignored bits = %v", r.Up[:r.N], v, got)
				}
			}
		}
	}
}

func TestCloseReturnsTheLeast(t *testing.T) {
	for _, r := range small() {
		var closed []uint64
		for w := top(r); ; w = (w - 1) & top(r) {
			if is := grid.Closed(r, w); is != (least(r, w) == w) {
				t.Fatalf("Closed(%b, %#x) = %v", r.Up[:r.N], w, is)
			} else if is {
				closed = append(closed, w)
			}
			if w == 0 {
				break
			}
		}
		for o := range r.N {
			for x := range r.N {
				w := uint64(1) << (8*o + x)
				got := grid.Close(r, w)
				for _, c := range closed {
					if c&w == w && c&got != got {
						t.Errorf("Close(%b, %#x) = %#x, but %#x is closed", r.Up[:r.N], w, got, c)
					}
				}
			}
		}
	}
}

func TestClosedHasNoOtherBits(t *testing.T) {
	r := relate.Closure(relate.Of(2, api.Pair{High: 1}))
	for i := range 64 {
		w := uint64(0x0101) | 1<<i
		// Only the bits of the first owner can be added: the second reader acts for the first one, and the second owner would bind the first one.
		want := w == 0x0101 || w == 0x0103
		if got := grid.Closed(r, w); got != want {
			t.Errorf("Closed(%#x) = %v", w, got)
		}
	}
}

// P5.2: Rule, Readers, Owners.

func TestRule(t *testing.T) {
	next := numbers()
	for _, r := range relations() {
		for owner := range r.N {
			for s := range uint64(1) << r.N {
				want := rule(r, owner, s)
				if got := grid.Rule(r, owner, s); got != want {
					t.Errorf("Rule(%b, %d, %b) = %#x, want %#x", r.Up[:r.N], owner, s, got, want)
				}
				// Readers that are no principals are nobody.
				other := next() << r.N
				if got := grid.Rule(soiled(r), owner, s|other); got != want {
					t.Errorf("Rule(%b, %d, %b) = %#x, want %#x", r.Up[:r.N], owner, s|other, got, want)
				}
			}
		}
		for _, owner := range []int{-1, -8, r.N, r.N + 1, 8, 9, 63, 64, 256, math.MinInt, math.MaxInt} {
			if got := grid.Rule(r, owner, 0); got != 0 {
				t.Errorf("Rule(%d principals, owner %d) = %#x", r.N, owner, got)
			}
		}
	}
}

func TestRuleOfTwo(t *testing.T) {
	r := relate.Closure(relate.Of(2, api.Pair{High: 1}))
	for _, c := range []struct {
		owner   int
		readers uint64
		want    uint64
	}{
		{0, 0, 0x0003},
		{0, 1, 0x0000},
		{0, 2, 0x0001},
		{0, 3, 0x0000},
		{1, 0, 0x0303},
		{1, 1, 0x0000},
		{1, 2, 0x0101},
		{1, all, 0x0000},
		{1, all - 3, 0x0303},
		{2, 0, 0},
		{-1, 0, 0},
	} {
		if got := grid.Rule(r, c.owner, c.readers); got != c.want {
			t.Errorf("Rule(%d, %b) = %#x, want %#x", c.owner, c.readers, got, c.want)
		}
	}
}

func TestReadersAndOwners(t *testing.T) {
	for _, r := range relations() {
		for _, w := range words() {
			for owner := range r.N {
				if got, want := grid.Readers(soiled(r), w, owner), readers(r, w, owner); got != want {
					t.Errorf("Readers(%d principals, %#x, %d) = %b, want %b", r.N, w, owner, got, want)
				}
			}
			for _, owner := range []int{-1, -8, r.N, r.N + 1, 8, 9, 63, 64, 256, math.MinInt, math.MaxInt} {
				if got := grid.Readers(r, w, owner); got != 0 {
					t.Errorf("Readers(%d principals, %#x, %d) = %b", r.N, w, owner, got)
				}
			}
			if got, want := grid.Owners(soiled(r), w), owners(r, w); got != want {
				t.Errorf("Owners(%d principals, %#x) = %b, want %b", r.N, w, got, want)
			}
		}
	}
}

func TestReadersAndOwnersDoNotClose(t *testing.T) {
	// The second principal acts for the first one: closed, the word would exclude more.
	r := relate.Closure(relate.Of(2, api.Pair{High: 1}))
	w := uint64(0x0200)
	if got := grid.Readers(r, w, 0); got != 3 {
		t.Errorf("Readers of the first owner = %b", got)
	}
	if got := grid.Readers(r, w, 1); got != 1 {
		t.Errorf("Readers of the second owner = %b", got)
	}
	if got := grid.Owners(r, w); got != 2 {
		t.Errorf("Owners = %b", got)
	}
	if got := grid.Owners(r, 0xfffffffffffffcfc); got != 0 {
		t.Errorf("Owners of bits that correspond to no principals = %b", got)
	}
}

// P5.3: Height.

func TestHeight(t *testing.T) {
	for _, r := range relations() {
		classes := 0
		for i := range r.N {
			first := true
			for j := range i {
				first = first && !(below(r, i, j) && below(r, j, i))
			}
			if first {
				classes++
			}
		}
		if got := grid.Height(soiled(r)); got != classes*classes {
			t.Errorf("Height(%b) = %d, want %d", r.Up[:r.N], got, classes*classes)
		}
	}
	if got := grid.Height(relate.Closure(relate.New(8))); got != 64 {
		t.Errorf("Height of 8 principals = %d", got)
	}
	if got := grid.Height(relate.Closure(relate.New(1))); got != 1 {
		t.Errorf("Height of 1 principal = %d", got)
	}
}

// P5.1 to P5.3: nothing is returned for a relation that is none of principals.

func TestWrongRelations(t *testing.T) {
	for _, r := range wrong() {
		for _, w := range []uint64{0, 1, 0x0303, all} {
			if grid.Close(r, w) != 0 || grid.Closed(r, w) || grid.Owners(r, w) != 0 {
				t.Errorf("the word %#x of %d points %b has something", w, r.N, r.Up[:4])
			}
			for _, owner := range []int{math.MinInt, -1, 0, 1, 7, 8, 63, 64, math.MaxInt} {
				if grid.Rule(r, owner, w) != 0 || grid.Readers(r, w, owner) != 0 {
					t.Errorf("owner %d of %d points %b has a rule or readers", owner, r.N, r.Up[:4])
				}
			}
		}
		if grid.Top(r) != 0 || grid.Height(r) != 0 {
			t.Errorf("%d points %b have a top or a height", r.N, r.Up[:4])
		}
	}
}

// P5.4: the laws.

func TestClosedWordIsTheUnionOfItsRules(t *testing.T) {
	for _, r := range relations() {
		for _, w := range words() {
			w = grid.Close(r, w)
			var union uint64
			for owner := range r.N {
				union |= grid.Rule(r, owner, grid.Readers(r, w, owner))
			}
			if union != w {
				t.Errorf("the rules of %#x have the union %#x", w, union)
			}
		}
	}
}

func TestUnionAndIntersectionAreClosed(t *testing.T) {
	l := words()
	for _, r := range relations() {
		for i, w := range l {
			a, b := grid.Close(r, w), grid.Close(r, l[(i*7+3)%len(l)])
			if !grid.Closed(r, a|b) || !grid.Closed(r, a&b) {
				t.Errorf("the union or intersection of %#x and %#x is not closed", a, b)
			}
		}
	}
}

func TestDifferentClosuresOfSingleBits(t *testing.T) {
	for _, r := range relations() {
		seen := map[uint64]bool{}
		for o := range r.N {
			for x := range r.N {
				seen[grid.Close(r, 1<<(8*o+x))] = true
			}
		}
		if len(seen) != grid.Height(r) {
			t.Errorf("%b: %d closures of single bits, height %d", r.Up[:r.N], len(seen), grid.Height(r))
		}
	}
}
