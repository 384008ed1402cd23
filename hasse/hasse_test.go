package hasse_test

import (
	"math"
	"testing"

	"clearance/api"
	"clearance/hasse"
	"clearance/relate"
)

// related tells whether one point lies on the side of another one that a test asks about.
type related func(i, j int) bool

// points returns the number of points of a relation with this N.
func points(n int) int {
	if n < 0 {
		return 0
	}
	if n > 64 {
		return 64
	}
	return n
}

// below returns the relation of r as chapter 3 defines it; what is no point is below nothing and above nothing.
func below(r api.Rel) related {
	n := points(r.N)
	return func(i, j int) bool {
		return i >= 0 && i < n && j >= 0 && j < n && r.Up[i]>>j&1 == 1
	}
}

// turn returns the relation with its sides changed.
func (rel related) turn() related {
	return func(i, j int) bool { return rel(j, i) }
}

// bounds lists all points that are above both i and j and below every such point, in ascending order.
func (rel related) bounds(n, i, j int) []int {
	var l []int
	for k := range n {
		is := rel(i, k) && rel(j, k)
		for other := range n {
			if rel(i, other) && rel(j, other) {
				is = is && rel(k, other)
			}
		}
		if is {
			l = append(l, k)
		}
	}
	return l
}

// ends lists all points that are below all points, in ascending order.
func (rel related) ends(n int) []int {
	var l []int
	for k := range n {
		is := true
		for other := range n {
			is = is && rel(k, other)
		}
		if is {
			l = append(l, k)
		}
	}
	return l
}

// word adds up the bits of the points below i.
func (rel related) word(n, i int) uint64 {
	var w uint64
	for k := range n {
		if rel(k, i) {
			w += 1 << k
		}
	}
	return w
}

// having lists all points with this word, in ascending order.
func (rel related) having(n int, w uint64) []int {
	var l []int
	for k := range n {
		if rel.word(n, k) == w {
			l = append(l, k)
		}
	}
	return l
}

// raise follows the promise.
func (rel related) raise(n int, a, b uint64) uint64 {
	i, isA := least(rel.having(n, a))
	j, isB := least(rel.having(n, b))
	if isA && isB {
		if k, is := least(rel.bounds(n, i, j)); is {
			return rel.word(n, k)
		}
	}
	return a | b
}

// order reports whether the relation is reflexive, antisymmetric and transitive.
func (rel related) order(n int) bool {
	for i := range n {
		if !rel(i, i) {
			return false
		}
		for j := range n {
			if i != j && rel(i, j) && rel(j, i) {
				return false
			}
			for k := range n {
				if rel(i, j) && rel(j, k) && !rel(i, k) {
					return false
				}
			}
		}
	}
	return true
}

// lattice follows the definition of a table. It takes N and not the number of points, as N itself must be in 1 to 64.
func (rel related) lattice(n int) bool {
	if n < 1 || n > 64 || !rel.order(n) {
		return false
	}
	for i := range n {
		for j := range n {
			if len(rel.bounds(n, i, j)) == 0 || len(rel.turn().bounds(n, i, j)) == 0 {
				return false
			}
		}
	}
	return true
}

// least returns the first element of an ascending list, as the package tells it.
func least(l []int) (int, bool) {
	if len(l) == 0 {
		return 0, false
	}
	return l[0], true
}

// numbers returns a function that makes one number after the other, the same ones in each test.
func numbers() func() uint64 {
	x := uint64(88172645463325252)
	return func() uint64 {
		x ^= x << 13
		x ^= x >> 7
		x ^= x << 17
		return x
	}
}

// made returns the relation of n points in which exactly those are related for which rel holds.
func made(n int, rel related) api.Rel {
	r := api.Rel{N: n}
	for i := range n {
		for j := range n {
			if rel(i, j) {
				r.Up[i] += 1 << j
			}
		}
	}
	return r
}

// soiled returns r with all bits set that no point has.
func soiled(r api.Rel) api.Rel {
	n := points(r.N)
	for i := range r.Up {
		if i >= n {
			r.Up[i] = math.MaxUint64
		}
		if n < 64 {
			r.Up[i] |= math.MaxUint64 << n
		}
	}
	return r
}

// renumbered returns r with each point i renamed to (i * step) % N; step and N have no common divisor.
func renumbered(r api.Rel, step int) api.Rel {
	s := api.Rel{N: r.N}
	for i := range r.N {
		for j := range r.N {
			if r.Up[i]>>j&1 == 1 {
				s.Up[i*step%r.N] |= 1 << (j * step % r.N)
			}
		}
	}
	return s
}

// small returns every relation of at most 3 points, and a share of those of 4 points.
func small() []api.Rel {
	var l []api.Rel
	for n := range 5 {
		step := 1
		if n == 4 {
			step = 211
		}
		for pairs := 0; pairs < 1<<(n*n); pairs += step {
			l = append(l, made(n, func(i, j int) bool { return pairs>>(n*i+j)&1 == 1 }))
		}
	}
	return l
}

// mixed returns relations of 5 to 9 points, closed and not.
func mixed() []api.Rel {
	next := numbers()
	var l []api.Rel
	for n := 5; n <= 9; n++ {
		for pairs := range 4 * n {
			r := relate.New(n)
			up := relate.New(n)
			for range pairs {
				i, j := int(next()%uint64(n)), int(next()%uint64(n))
				r = relate.With(r, i, j)
				up = relate.With(up, min(i, j), max(i, j))
			}
			for i := range n {
				up = relate.With(relate.With(up, 0, i), i, n-1)
			}
			l = append(l, r, relate.Closure(r), up, relate.Closure(up))
		}
	}
	return l
}

// chain returns the chain of n points.
func chain(n int) api.Rel {
	return made(n, func(i, j int) bool { return i <= j })
}

// sets returns the lattice of the subsets of a set of n atoms.
func sets(n int) api.Rel {
	return made(1<<n, func(i, j int) bool { return i&^j == 0 })
}

// flat returns the lattice of n points in which all but the first and the last one are between these and otherwise unrelated.
func flat(n int) api.Rel {
	return made(n, func(i, j int) bool { return i == j || i == 0 || j == n-1 })
}

// pentagon returns the lattice 0 < 1 < 2 < 4 and 0 < 3 < 4, in which no law of distribution holds.
func pentagon() api.Rel {
	return relate.Closure(relate.Of(5, api.Pair{Low: 0, High: 1}, api.Pair{Low: 1, High: 2}, api.Pair{Low: 2, High: 4}, api.Pair{Low: 0, High: 3}, api.Pair{Low: 3, High: 4}))
}

// tables returns lattices of 1 to 64 points.
func tables() []api.Rel {
	l := []api.Rel{chain(1), chain(2), chain(5), chain(63), chain(64), sets(1), sets(2), sets(4), sets(6), flat(3), flat(5), flat(63), flat(64), pentagon()}
	for _, r := range l {
		l = append(l, made(r.N, below(r).turn()), renumbered(r, 11))
	}
	return l
}

// broken returns orders of up to 64 points that are no lattices because of one pair only.
func broken() []api.Rel {
	var l []api.Rel
	for _, n := range []int{6, 64} {
		// Below the last point there are two twos of unrelated points, one two below the other: of the lower one there is no join, and of the upper one no meet.
		r := made(n, func(i, j int) bool {
			lower := i >= n-5 && j < n-3
			upper := i >= n-3 && j < n-1
			return i == j || i < j && !lower && !upper
		})
		// All points but the bottom are unrelated, so that there is no top.
		fan := made(n, func(i, j int) bool { return i == j || i == 0 })
		l = append(l, r, made(n, below(r).turn()), fan, made(n, below(fan).turn()))
	}
	return l
}

// others returns what may be given instead of a point of a relation of n points.
func others(n int) []int {
	return []int{-1, n, n + 1, 63, 64, 65, 128, -64, math.MinInt, math.MaxInt}
}

// asked returns the points of r and some numbers that are none.
func asked(r api.Rel) []int {
	var l []int
	n := points(r.N)
	for i := range n {
		l = append(l, i)
	}
	return append(l, others(n)...)
}

// relations returns all relations that the tests take, soiled where bits can be ignored.
func relations() []api.Rel {
	l := append(small(), mixed()...)
	for _, r := range l {
		l = append(l, soiled(r))
	}
	return l
}

// large returns relations for which the tests do not ask about every pair.
func large() []api.Rel {
	return append(tables(), broken()...)
}

// same fails if a point is not what the model has.
func same(t *testing.T, what string, r api.Rel, k int, is bool, wanted []int) {
	t.Helper()
	if wantedK, wantedIs := least(wanted); k != wantedK || is != wantedIs {
		t.Fatalf("%s of %d points %b: %d, %v instead of %d, %v", what, r.N, r.Up[:points(r.N)], k, is, wantedK, wantedIs)
	}
}

// P6.1: Join and Meet.

func bounded(t *testing.T, r api.Rel, i, j int) {
	t.Helper()
	rel, n := below(r), points(r.N)
	k, is := hasse.Join(r, i, j)
	same(t, "join", r, k, is, rel.bounds(n, i, j))
	k, is = hasse.Meet(r, i, j)
	same(t, "meet", r, k, is, rel.turn().bounds(n, i, j))
}

func TestBoundsOfEveryPair(t *testing.T) {
	for _, r := range relations() {
		for _, i := range asked(r) {
			for _, j := range asked(r) {
				bounded(t, r, i, j)
			}
		}
	}
}

func TestBoundsOfLargeRelations(t *testing.T) {
	next := numbers()
	for _, r := range large() {
		l := asked(r)
		for range 40 {
			bounded(t, r, l[next()%uint64(len(l))], l[next()%uint64(len(l))])
		}
		bounded(t, r, 0, 0)
		bounded(t, r, 0, r.N-1)
		bounded(t, r, r.N-1, r.N-1)
	}
}

func TestTheBoundsOfExample1(t *testing.T) {
	r := relate.Closure(relate.Of(5, api.Pair{Low: 0, High: 1}, api.Pair{Low: 0, High: 2}, api.Pair{Low: 0, High: 3}, api.Pair{Low: 1, High: 4}, api.Pair{Low: 2, High: 4}, api.Pair{Low: 3, High: 4}))
	if k, is := hasse.Join(r, 1, 2); k != 4 || !is {
		t.Error("join", k, is)
	}
	if k, is := hasse.Meet(r, 1, 2); k != 0 || !is {
		t.Error("meet", k, is)
	}
}

func TestOfSeveralBoundsTheLeastNumberedOneCounts(t *testing.T) {
	// All points are below each other, so that each is a bound of any two.
	r := made(64, func(i, j int) bool { return true })
	for _, i := range []int{0, 5, 63} {
		if k, is := hasse.Join(r, i, 63); k != 0 || !is {
			t.Error("join", i, k, is)
		}
		if k, is := hasse.Meet(r, i, 63); k != 0 || !is {
			t.Error("meet", i, k, is)
		}
	}
	// Points 1 and 2 are below 4 and 5, which are below each other and themselves; 3 is above all without being below anything.
	r = relate.Of(6, api.Pair{Low: 1, High: 4}, api.Pair{Low: 1, High: 5}, api.Pair{Low: 2, High: 4}, api.Pair{Low: 2, High: 5}, api.Pair{Low: 4, High: 4}, api.Pair{Low: 4, High: 5}, api.Pair{Low: 5, High: 4}, api.Pair{Low: 5, High: 5}, api.Pair{Low: 1, High: 3}, api.Pair{Low: 2, High: 3}, api.Pair{Low: 4, High: 3}, api.Pair{Low: 5, High: 3})
	if k, is := hasse.Join(r, 1, 2); k != 4 || !is {
		t.Error("join", k, is)
	}
}

func TestABoundMustBeBelowItself(t *testing.T) {
	// Point 1 is the only one above point 0, but in this relation no point is above itself.
	r := relate.Of(2, api.Pair{Low: 0, High: 1})
	if k, is := hasse.Join(r, 0, 0); k != 0 || is {
		t.Error("join", k, is)
	}
	r = relate.With(r, 1, 1)
	if k, is := hasse.Join(r, 0, 0); k != 1 || !is {
		t.Error("join", k, is)
	}
}

// P6.2: Lattice, Bottom, Top.

func TestLattice(t *testing.T) {
	lattices := 0
	for _, r := range append(relations(), broken()...) {
		is := hasse.Lattice(r)
		if is != below(r).lattice(r.N) {
			t.Fatalf("%d points %b: %v", r.N, r.Up[:r.N], is)
		}
		if is {
			lattices++
		}
	}
	if lattices < 50 {
		t.Error("too few lattices:", lattices)
	}
}

func TestTablesAreLattices(t *testing.T) {
	for _, r := range tables() {
		if !hasse.Lattice(r) || !hasse.Lattice(soiled(r)) {
			t.Errorf("%d points %b", r.N, r.Up[:r.N])
		}
	}
}

func TestOrdersThatAreNoLattices(t *testing.T) {
	for _, r := range broken() {
		if !relate.Order(r) || hasse.Lattice(r) {
			t.Errorf("%d points %b", r.N, r.Up[:r.N])
		}
	}
	// Two points without relation have no join, and a meet only if something is below both.
	if hasse.Lattice(relate.Closure(relate.New(2))) {
		t.Error("two points")
	}
}

func TestRelationsThatAreNoOrders(t *testing.T) {
	cycle := made(3, func(i, j int) bool { return true })
	flawed := chain(64)
	flawed.Up[63] = 0
	gap := chain(64)
	gap.Up[0] &^= 1 << 63
	for _, r := range []api.Rel{cycle, flawed, gap, relate.New(1)} {
		if hasse.Lattice(r) {
			t.Errorf("%d points %b", r.N, r.Up[:r.N])
		}
	}
}

func TestTheNumberOfPointsOfATable(t *testing.T) {
	for n, wanted := range map[int]bool{math.MinInt: false, -1: false, 0: false, 1: true, 2: true, 63: true, 64: true, 65: false, math.MaxInt: false} {
		r := chain(64)
		r.N = n
		if hasse.Lattice(r) != wanted {
			t.Error(n)
		}
	}
}

func TestEnds(t *testing.T) {
	for _, r := range append(relations(), large()...) {
		rel, n := below(r), points(r.N)
		k, is := hasse.Bottom(r)
		same(t, "bottom", r, k, is, rel.ends(n))
		k, is = hasse.Top(r)
		same(t, "top", r, k, is, rel.turn().ends(n))
	}
}

func TestEndsAtTheLimits(t *testing.T) {
	for _, n := range []int{0, -1, math.MinInt} {
		r := chain(64)
		r.N = n
		if k, is := hasse.Bottom(r); k != 0 || is {
			t.Error("bottom", n, k, is)
		}
		if k, is := hasse.Top(r); k != 0 || is {
			t.Error("top", n, k, is)
		}
	}
	for _, n := range []int{64, 65, math.MaxInt} {
		r := made(64, func(i, j int) bool { return i >= j })
		r.N = n
		if k, is := hasse.Bottom(r); k != 63 || !is {
			t.Error("bottom", n, k, is)
		}
		if k, is := hasse.Top(r); k != 0 || !is {
			t.Error("top", n, k, is)
		}
	}
	cycle := made(64, func(i, j int) bool { return i > 2 || j > 2 })
	if k, is := hasse.Bottom(cycle); k != 3 || !is {
		t.Error("bottom", k, is)
	}
	if k, is := hasse.Top(cycle); k != 3 || !is {
		t.Error("top", k, is)
	}
}

// P6.3: Word, Point, Raise.

// words returns the words of the points of r, and some that are mostly those of none.
func words(r api.Rel) []uint64 {
	n := points(r.N)
	l := []uint64{0, 1, 2, 5, 1 << 63, math.MaxUint64, 1<<n - 1, 1 << n, 1<<n + 1}
	for i := range n {
		l = append(l, below(r).word(n, i))
	}
	return l
}

func TestWord(t *testing.T) {
	for _, r := range append(relations(), large()...) {
		for _, i := range asked(r) {
			wanted := uint64(0)
			if i >= 0 && i < r.N {
				wanted = below(r).word(r.N, i)
			}
			if w := hasse.Word(r, i); w != wanted {
				t.Fatalf("%d points %b: %d has %b instead of %b", r.N, r.Up[:r.N], i, w, wanted)
			}
		}
	}
}

func TestPoint(t *testing.T) {
	for _, r := range append(relations(), large()...) {
		for _, w := range words(r) {
			k, is := hasse.Point(r, w)
			same(t, "point", r, k, is, below(r).having(r.N, w))
		}
	}
}

func TestAPointMayHaveTheEmptyWord(t *testing.T) {
	if k, is := hasse.Point(relate.New(3), 0); k != 0 || !is {
		t.Error(k, is)
	}
	if k, is := hasse.Point(relate.Of(3, api.Pair{Low: 1, High: 0}), 0); k != 1 || !is {
		t.Error(k, is)
	}
	if k, is := hasse.Point(relate.New(0), 0); k != 0 || is {
		t.Error(k, is)
	}
}

func raised(t *testing.T, r api.Rel, a, b uint64) {
	t.Helper()
	if w, wanted := hasse.Raise(r, a, b), below(r).raise(points(r.N), a, b); w != wanted {
		t.Fatalf("%d points %b: %b and %b raise %b instead of %b", r.N, r.Up[:points(r.N)], a, b, w, wanted)
	}
}

func TestRaise(t *testing.T) {
	for _, r := range relations() {
		for _, a := range words(r) {
			for _, b := range words(r) {
				raised(t, r, a, b)
			}
		}
	}
}

func TestRaiseInLargeRelations(t *testing.T) {
	next := numbers()
	for _, r := range large() {
		l := words(r)
		for range 12 {
			raised(t, r, l[next()%uint64(len(l))], l[next()%uint64(len(l))])
		}
	}
}

func TestRaiseIsMoreThanTheUnion(t *testing.T) {
	r := flat(64)
	for i := 1; i < 63; i++ {
		a, b := uint64(1+1<<i), uint64(1+1<<(i%62+1))
		if w := hasse.Raise(r, a, b); w != math.MaxUint64 {
			t.Errorf("%b and %b: %b", a, b, w)
		}
		if w := hasse.Raise(r, a, a); w != a {
			t.Errorf("%b: %b", a, w)
		}
	}
}

func TestRaiseOfWhatHasNoJoin(t *testing.T) {
	two := relate.Closure(relate.New(2))
	if w := hasse.Raise(two, 1, 2); w != 3 {
		t.Error("no join", w)
	}
	// 6 is no point's word, even though the other one is.
	if w := hasse.Raise(chain(3), 6, 1); w != 7 {
		t.Error("first", w)
	}
	if w := hasse.Raise(chain(3), 1, 6); w != 7 {
		t.Error("second", w)
	}
	if w := hasse.Raise(chain(3), 8, 16); w != 24 {
		t.Error("both", w)
	}
	if w := hasse.Raise(flat(4), 0, 3); w != 3 {
		t.Error("no point below nothing", w)
	}
}

func TestRelationsOfAnyNumberOfPoints(t *testing.T) {
	for _, n := range []int{math.MinInt, -1, 0, 65, math.MaxInt} {
		r := sets(6)
		r.N = n
		for _, i := range []int{math.MinInt, -1, 0, 3, 5, 63, 64, math.MaxInt} {
			bounded(t, r, i, 6)
			bounded(t, r, 6, i)
			wanted := uint64(0)
			if i >= 0 && i < points(n) {
				wanted = below(r).word(points(n), i)
			}
			if w := hasse.Word(r, i); w != wanted {
				t.Errorf("%d points: %d has %b instead of %b", n, i, w, wanted)
			}
			k, is := hasse.Point(r, wanted)
			same(t, "point", r, k, is, below(r).having(points(n), wanted))
			raised(t, r, wanted, 5)
			raised(t, r, 5, wanted)
		}
	}
}

// P6.4: laws.

func TestLawsOfALattice(t *testing.T) {
	for _, r := range tables() {
		if r.N > 16 {
			continue
		}
		laws(t, r)
	}
}

// laws fails unless each two or three points of the lattice r satisfy the laws.
func laws(t *testing.T, r api.Rel) {
	t.Helper()
	join := func(i, j int) int { k, _ := hasse.Join(r, i, j); return k }
	meet := func(i, j int) int { k, _ := hasse.Meet(r, i, j); return k }
	for i := range r.N {
		for j := range r.N {
			if join(i, j) != join(j, i) || meet(i, j) != meet(j, i) {
				t.Error("the order matters", i, j)
			}
			if join(i, meet(i, j)) != i || meet(i, join(i, j)) != i {
				t.Error("no absorption", i, j)
			}
			if relate.Has(r, i, j) != (join(i, j) == j) || relate.Has(r, i, j) != (meet(i, j) == i) {
				t.Error("another order", i, j)
			}
			for k := range r.N {
				if join(i, join(j, k)) != join(join(i, j), k) || meet(i, meet(j, k)) != meet(meet(i, j), k) {
					t.Error("the grouping matters", i, j, k)
				}
			}
		}
	}
}

func TestLawsOfWords(t *testing.T) {
	next := numbers()
	for _, r := range tables() {
		for range 100 {
			i, j := int(next()%uint64(r.N)), int(next()%uint64(r.N))
			a, b := hasse.Word(r, i), hasse.Word(r, j)
			if relate.Has(r, i, j) != (a&^b == 0) {
				t.Error("another order", i, j)
			}
			if k, _ := hasse.Meet(r, i, j); hasse.Word(r, k) != a&b {
				t.Error("the meet is not the intersection", i, j)
			}
			if k, is := hasse.Point(r, a); k != i || !is {
				t.Error("another point", i, k)
			}
			if k, is := hasse.Join(r, i, j); !is || hasse.Raise(r, a, b) != hasse.Word(r, k) {
				t.Error("another join", i, j)
			}
		}
	}
}
