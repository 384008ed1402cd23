package relate_test

import (
	"cmp"
	"math"
	"slices"
	"testing"

	"clearance/api"
	"clearance/relate"
)

const all = math.MaxUint64

// table is a relation as the tests know it: table[i][j] tells whether i is below j. The package works on words instead.
type table [][]bool

// empty returns the table of n points in which no points are related.
func empty(n int) table {
	t := make(table, n)
	for i := range t {
		t[i] = make([]bool, n)
	}
	return t
}

// points returns the number of points of a relation with this N.
func points(n int) int {
	if n < 0 {
		return 0
	}
	if n > 64 {
		return 64
	}
	return n
}

// read returns the table of r.
func read(r api.Rel) table {
	t := empty(points(r.N))
	for i := range t {
		for j := range t {
			t[i][j] = r.Up[i]>>j%2 == 1
		}
	}
	return t
}

// rel returns the relation of t, without ignored bits.
func (t table) rel() api.Rel {
	r := api.Rel{N: len(t)}
	for i := range t {
		for j := range t {
			if t[i][j] {
				r.Up[i] += 1 << j
			}
		}
	}
	return r
}

// closure returns the table of what can be reached, by a search from each point.
func (t table) closure() table {
	c := empty(len(t))
	for i := range t {
		next := []int{i}
		for len(next) > 0 {
			k := next[0]
			next = next[1:]
			if c[i][k] {
				continue
			}
			c[i][k] = true
			for j := range t {
				if t[k][j] {
					next = append(next, j)
				}
			}
		}
	}
	return c
}

// closed follows the definition.
func (t table) closed() bool {
	for i := range t {
		if !t[i][i] {
			return false
		}
		for j := range t {
			for k := range t {
				if t[i][j] && t[j][k] && !t[i][k] {
					return false
				}
			}
		}
	}
	return true
}

// order follows the definition.
func (t table) order() bool {
	for i := range t {
		for j := range i {
			if t[i][j] && t[j][i] {
				return false
			}
		}
	}
	return t.closed()
}

// classes counts the points of the closure that share their class with no point before them.
func (t table) classes() int {
	c := t.closure()
	n := 0
	for i := range c {
		first := true
		for j := range i {
			first = first && !(c[i][j] && c[j][i])
		}
		if first {
			n++
		}
	}
	return n
}

// covers follows the definition, for an order.
func (t table) covers() []api.Pair {
	var l []api.Pair
	for i := range t {
		for j := range t {
			next := i != j && t[i][j]
			for k := range t {
				next = next && !(k != i && k != j && t[i][k] && t[k][j])
			}
			if next {
				l = append(l, api.Pair{Low: i, High: j})
			}
		}
	}
	return l
}

// long finds the longest sequence from each point of an order, and remembers what it found.
func (t table) long() int {
	found := make([]int, len(t))
	var from func(i int) int
	from = func(i int) int {
		if found[i] == 0 {
			most := 0
			for j := range t {
				if i != j && t[i][j] {
					most = max(most, from(j)+1)
				}
			}
			found[i] = most + 1
		}
		return found[i] - 1
	}
	longest := 0
	for i := range t {
		longest = max(longest, from(i))
	}
	return longest
}

// dirty returns r with all ignored bits set.
func dirty(r api.Rel) api.Rel {
	n := points(r.N)
	for i := range r.Up {
		for j := range 64 {
			if i >= n || j >= n {
				r.Up[i] |= 1 << j
			}
		}
	}
	return r
}

// pair returns a pair with less to write.
func pair(i, j int) api.Pair { return api.Pair{Low: i, High: j} }

// mixer returns a function that returns numbers from 0 to n - 1 in an order that is fixed but mixed.
func mixer(x uint64) func(n int) int {
	return func(n int) int {
		x = x*6364136223846793005 + 1442695040888963407
		return int(x>>33) % n
	}
}

// small returns all relations of n points, as tables.
func small(n int) []table {
	var l []table
	for bits := range 1 << (n * n) {
		t := empty(n)
		for i := range n {
			for j := range n {
				t[i][j] = bits>>(i*n+j)%2 == 1
			}
		}
		l = append(l, t)
	}
	return l
}

// mixed returns the table of n points in which of each 1000 pairs about so many are related.
func mixed(n, so int, next func(int) int) table {
	t := empty(n)
	for i := range t {
		for j := range t {
			t[i][j] = next(1000) < so
		}
	}
	return t
}

// renumbered returns t with its points in another order.
func (t table) renumbered(next func(int) int) table {
	to := make([]int, len(t))
	for i := range to {
		k := next(i + 1)
		to[i] = to[k]
		to[k] = i
	}
	u := empty(len(t))
	for i := range t {
		for j := range t {
			u[to[i]][to[j]] = t[i][j]
		}
	}
	return u
}

// upward returns t without its pairs whose first number is greater than the second one, so that its closure is an order.
func (t table) upward() table {
	u := empty(len(t))
	for i := range t {
		for j := i; j < len(t); j++ {
			u[i][j] = t[i][j]
		}
	}
	return u
}

// chain returns the table in which each of n points is below the next one and, if round, the last one below the first.
func chain(n int, round bool) table {
	t := empty(n)
	for i := range n - 1 {
		t[i][i+1] = true
	}
	if round && n > 0 {
		t[n-1][0] = true
	}
	return t
}

// tables returns relations of all kinds: none and all pairs related, chains, cycles, subsets of a set, mixed ones, orders, their closures.
func tables() []table {
	var l []table
	for n := range 3 {
		l = append(l, small(n)...)
	}
	next := mixer(1)
	for _, n := range []int{0, 1, 2, 3, 5, 8, 31, 32, 33, 63, 64} {
		l = append(l, mixed(n, 1001, next), mixed(n, 0, next))
		for _, t := range []table{chain(n, false), chain(n, true), mixed(n, 20, next), mixed(n, 100, next), mixed(n, 500, next), subsets(n)} {
			ascending := t.upward()
			l = append(l, t, t.closure(), t.renumbered(next), t.closure().renumbered(next), ascending.closure(), ascending.closure().renumbered(next))
		}
	}
	return l
}

// subsets returns the table of n points whose bits are subsets of each other's.
func subsets(n int) table {
	t := empty(n)
	for i := range t {
		for j := range t {
			t[i][j] = i&^j == 0
		}
	}
	return t
}

// relations calls do with each of the tables, and with their relations: as they are, and with the ignored bits set.
func relations(do func(t table, r api.Rel)) {
	for _, t := range append(tables(), small(3)...) {
		do(t, t.rel())
		do(t, dirty(t.rel()))
		if len(t) == 0 {
			do(t, dirty(api.Rel{N: -1}))
			do(t, dirty(api.Rel{N: math.MinInt}))
		}
		if len(t) == 64 {
			r := t.rel()
			for _, r.N = range []int{65, 128, math.MaxInt} {
				do(t, r)
			}
		}
	}
}

// sizes returns numbers of points, valid ones and others.
func sizes() []int {
	return []int{math.MinInt, -65, -64, -1, 0, 1, 2, 3, 31, 32, 33, 62, 63, 64, 65, 127, 128, 129, 1 << 32, math.MaxInt}
}

// numbers returns all points that a relation can have, and numbers below and above them.
func numbers() []int {
	l := []int{math.MinInt, math.MinInt + 1, -256, -64, -63, 127, 128, 129, 256, 1 << 32, math.MaxInt}
	for i := -3; i < 68; i++ {
		l = append(l, i)
	}
	return l
}

// words returns sets: the limits, each number alone, and mixed ones.
func words() []uint64 {
	w := []uint64{0, all, 9, 0x5555555555555555, 0xaaaaaaaaaaaaaaaa, 0xffffffff00000000}
	x := uint64(1)
	for i := range 64 {
		x = x*6364136223846793005 + 1442695040888963407
		w = append(w, 1<<i, x>>i)
	}
	return w
}

// want reports a difference between relations, by their structs: so their points are right and their ignored bits 0.
func want(t *testing.T, what string, got, want api.Rel) {
	t.Helper()
	if got != want {
		t.Errorf("%s = %v, want %v", what, got, want)
	}
}

// P3.1: New, Of, Has, With, Same.

func TestNew(t *testing.T) {
	for _, n := range sizes() {
		want(t, "New", relate.New(n), api.Rel{N: points(n)})
		want(t, "Of without pairs", relate.Of(n), api.Rel{N: points(n)})
		for i := range 64 {
			for j := range 64 {
				if relate.Has(relate.New(n), i, j) {
					t.Errorf("New(%d) has %d below %d", n, i, j)
				}
			}
		}
	}
}

func TestNewAtTheLimits(t *testing.T) {
	for _, c := range []struct{ n, want int }{
		{math.MinInt, 0}, {-1, 0}, {0, 0}, {1, 1}, {api.MaxPoints - 1, 63}, {api.MaxPoints, 64}, {api.MaxPoints + 1, 64}, {math.MaxInt, 64},
	} {
		if got := relate.New(c.n).N; got != c.want {
			t.Errorf("New(%d) has %d points", c.n, got)
		}
	}
}

func TestOf(t *testing.T) {
	for _, c := range []struct {
		n     int
		pairs []api.Pair
		want  api.Rel
	}{
		{3, nil, api.Rel{N: 3}},
		{3, []api.Pair{}, api.Rel{N: 3}},
		{3, []api.Pair{pair(0, 1), pair(1, 2)}, api.Rel{N: 3, Up: [64]uint64{2, 4}}},
		{3, []api.Pair{pair(1, 0)}, api.Rel{N: 3, Up: [64]uint64{1: 1}}},
		{3, []api.Pair{pair(2, 2), pair(2, 2)}, api.Rel{N: 3, Up: [64]uint64{2: 4}}},
		{3, []api.Pair{pair(0, 3), pair(3, 0), pair(-1, 1), pair(1, -1), pair(64, 65), pair(0, 64)}, api.Rel{N: 3}},
		{3, []api.Pair{pair(math.MinInt, 0), pair(0, math.MaxInt), pair(0, 2), pair(math.MaxInt, math.MinInt)}, api.Rel{N: 3, Up: [64]uint64{4}}},
		{0, []api.Pair{pair(0, 0)}, api.Rel{}},
		{-1, []api.Pair{pair(0, 0), pair(-1, -1)}, api.Rel{}},
		{math.MinInt, []api.Pair{pair(0, 0)}, api.Rel{}},
		{1, []api.Pair{pair(0, 0), pair(0, 1), pair(1, 0)}, api.Rel{N: 1, Up: [64]uint64{1}}},
		{64, []api.Pair{pair(0, 63), pair(63, 0), pair(63, 64), pair(64, 63)}, api.Rel{N: 64, Up: [64]uint64{0: 1 << 63, 63: 1}}},
		{65, []api.Pair{pair(64, 64), pair(63, 63), pair(0, 64)}, api.Rel{N: 64, Up: [64]uint64{63: 1 << 63}}},
		{math.MaxInt, []api.Pair{pair(64, 0), pair(5, 6)}, api.Rel{N: 64, Up: [64]uint64{5: 64}}},
	} {
		want(t, "Of", relate.Of(c.n, c.pairs...), c.want)
	}
}

// Of is neither the closure of its pairs nor confused by their order or repetition.
func TestOfMixedPairs(t *testing.T) {
	next := mixer(7)
	for _, n := range sizes() {
		for _, many := range []int{1, 10, 1000, 20000} {
			var l []api.Pair
			u := empty(points(n))
			for range many {
				i, j := next(70)-3, next(70)-3
				l = append(l, pair(i, j))
				if i >= 0 && i < len(u) && j >= 0 && j < len(u) {
					u[i][j] = true
				}
			}
			want(t, "Of", relate.Of(n, l...), u.rel())
			slices.Reverse(l)
			want(t, "Of in reverse", relate.Of(n, append(l, l...)...), u.rel())
		}
	}
}

func TestOfEveryPair(t *testing.T) {
	for _, n := range sizes() {
		var l []api.Pair
		for i := range 64 {
			for j := range 64 {
				l = append(l, pair(i, j))
			}
		}
		want(t, "Of", relate.Of(n, l...), mixed(points(n), 1001, mixer(1)).rel())
	}
}

func TestOfReadsOnlyItsList(t *testing.T) {
	memory := []api.Pair{pair(0, 1), pair(9, 9), pair(1, 0)}
	want(t, "Of", relate.Of(2, memory[:2]...), api.Rel{N: 2, Up: [64]uint64{2}})
	if !slices.Equal(memory, []api.Pair{pair(0, 1), pair(9, 9), pair(1, 0)}) {
		t.Errorf("Of changed its list to %v", memory)
	}
}

func TestOfLongList(t *testing.T) {
	l := make([]api.Pair, 1000000)
	for i := range l {
		l[i] = pair(i-500000, i-500001)
	}
	u := empty(64)
	for i := range 63 {
		u[i+1][i] = true
	}
	want(t, "Of", relate.Of(64, l...), u.rel())
}

func TestHas(t *testing.T) {
	relations(func(u table, r api.Rel) {
		for _, i := range numbers() {
			for _, j := range numbers() {
				is := i >= 0 && i < len(u) && j >= 0 && j < len(u) && u[i][j]
				if got := relate.Has(r, i, j); got != is {
					t.Fatalf("Has(%v, %d, %d) = %v", r, i, j, got)
				}
			}
		}
	})
}

func TestWith(t *testing.T) {
	next := mixer(3)
	relations(func(u table, r api.Rel) {
		l := numbers()
		for range 40 {
			i, j := l[next(len(l))], l[next(len(l))]
			if next(2) == 0 && len(u) > 0 {
				i, j = next(len(u)), next(len(u))
			}
			more := u.rel()
			if i >= 0 && i < len(u) && j >= 0 && j < len(u) {
				more.Up[i] |= 1 << j
			}
			want(t, "With", relate.With(r, i, j), more)
		}
	})
}

func TestWithNoPoints(t *testing.T) {
	relations(func(u table, r api.Rel) {
		for _, i := range []int{math.MinInt, -64, -1, len(u), len(u) + 1, 64, 65, 128, math.MaxInt} {
			want(t, "With", relate.With(r, i, i), u.rel())
			want(t, "With", relate.With(r, i, 0), u.rel())
			want(t, "With", relate.With(r, len(u)-1, i), u.rel())
		}
	})
}

func TestWithAtTheLimits(t *testing.T) {
	want(t, "With", relate.With(relate.New(64), 63, 63), api.Rel{N: 64, Up: [64]uint64{63: 1 << 63}})
	want(t, "With", relate.With(relate.New(64), 0, 63), api.Rel{N: 64, Up: [64]uint64{1 << 63}})
	want(t, "With", relate.With(relate.New(63), 0, 63), api.Rel{N: 63})
	want(t, "With", relate.With(relate.New(0), 0, 0), api.Rel{})
	want(t, "With", relate.With(relate.New(1), 0, 0), api.Rel{N: 1, Up: [64]uint64{1}})
	r := relate.New(2)
	relate.With(r, 0, 1)
	want(t, "the argument after With", r, api.Rel{N: 2})
}

func TestSame(t *testing.T) {
	var clean, ignored []api.Rel
	for _, u := range tables() {
		clean = append(clean, u.rel())
		ignored = append(ignored, dirty(u.rel()))
	}
	for i, a := range clean {
		for j, b := range clean {
			is := a == b
			for _, got := range []bool{relate.Same(a, b), relate.Same(ignored[i], b), relate.Same(a, ignored[j]), relate.Same(ignored[i], ignored[j])} {
				if got != is {
					t.Fatalf("Same(%v, %v) = %v", a, b, got)
				}
			}
		}
	}
}

func TestSameOfOtherPoints(t *testing.T) {
	for _, n := range sizes() {
		for _, m := range sizes() {
			is := points(n) == points(m)
			for _, up := range []uint64{0, all} {
				a, b := api.Rel{N: n}, api.Rel{N: m}
				for i := range a.Up {
					a.Up[i], b.Up[i] = up, up
				}
				if got := relate.Same(a, b); got != is {
					t.Errorf("Same of relations with N %d and %d = %v", n, m, got)
				}
			}
		}
	}
}

// Each single pair makes a difference.
func TestSameOfOnePairMore(t *testing.T) {
	for _, n := range []int{1, 2, 63, 64} {
		r := relate.New(n)
		for i := range n {
			for j := range n {
				more := r
				more.Up[i] |= 1 << j
				if relate.Same(r, more) || relate.Same(more, r) || !relate.Same(more, more) {
					t.Errorf("Same does not see that %d is below %d, of %d points", i, j, n)
				}
			}
		}
	}
}

// P3.2: Closure, Closed.

func TestClosure(t *testing.T) {
	relations(func(u table, r api.Rel) {
		want(t, "Closure", relate.Closure(r), u.closure().rel())
	})
}

func TestClosureOfEachRelationOfFourPoints(t *testing.T) {
	for _, u := range small(4) {
		want(t, "Closure", relate.Closure(u.rel()), u.closure().rel())
	}
}

func TestClosureAtTheLimits(t *testing.T) {
	for _, n := range sizes() {
		r := api.Rel{N: points(n)}
		for i := range r.N {
			r.Up[i] = 1 << i
		}
		want(t, "Closure of no pairs", relate.Closure(api.Rel{N: n}), r)
		want(t, "Closure of no pairs but ignored bits", relate.Closure(dirty(api.Rel{N: n})), r)
	}
	// The whole way is needed, in either direction, and back to its beginning.
	up, down := relate.New(64), relate.New(64)
	for i := range 63 {
		up, down = relate.With(up, i, i+1), relate.With(down, i+1, i)
	}
	for i := range 64 {
		for j := range 64 {
			if relate.Has(relate.Closure(up), i, j) != (i <= j) || relate.Has(relate.Closure(down), i, j) != (i >= j) {
				t.Fatalf("the closure of a chain is wrong about %d and %d", i, j)
			}
		}
	}
	round := relate.Closure(relate.With(up, 63, 0))
	want(t, "Closure of a cycle", round, mixed(64, 1001, mixer(1)).rel())
}

func TestClosed(t *testing.T) {
	relations(func(u table, r api.Rel) {
		if got := relate.Closed(r); got != u.closed() {
			t.Fatalf("Closed(%v) = %v", r, got)
		}
	})
	for _, u := range small(4) {
		if got := relate.Closed(u.rel()); got != u.closed() {
			t.Fatalf("Closed(%v) = %v", u, got)
		}
	}
}

// A closed relation is no longer closed if it lacks one pair that is needed.
func TestClosedOfOnePairLess(t *testing.T) {
	full := chain(64, false).closure()
	for i := range 64 {
		for j := range 64 {
			r := full.rel()
			r.Up[i] &^= 1 << j
			// Neighbours are not needed for other pairs to hold.
			if got, is := relate.Closed(r), j < i || j == i+1; got != is {
				t.Errorf("Closed without %d below %d = %v", i, j, got)
			}
		}
	}
}

// P3.3: Up, Down.

func TestUpDown(t *testing.T) {
	relations(func(u table, r api.Rel) {
		for _, s := range words() {
			var up, down uint64
			for i := range u {
				for j := range u {
					if u[i][j] && s>>i%2 == 1 {
						up |= 1 << j
					}
					if u[i][j] && s>>j%2 == 1 {
						down |= 1 << i
					}
				}
			}
			if got := relate.Up(r, s); got != up {
				t.Fatalf("Up(%v, %#x) = %#x, want %#x", r, s, got, up)
			}
			if got := relate.Down(r, s); got != down {
				t.Fatalf("Down(%v, %#x) = %#x, want %#x", r, s, got, down)
			}
		}
	})
}

func TestUpDownAtTheLimits(t *testing.T) {
	for _, n := range sizes() {
		full := dirty(mixed(points(n), 1001, mixer(1)).rel())
		full.N = n
		below := uint64(all)
		if p := points(n); p < 64 {
			below = 1<<p - 1
		}
		if relate.Up(full, 0) != 0 || relate.Down(full, 0) != 0 {
			t.Errorf("the empty set has neighbours among %d points", n)
		}
		if relate.Up(full, all) != below || relate.Down(full, all) != below {
			t.Errorf("of %d points, not all are neighbours of some", n)
		}
		// Numbers that are no points have no neighbours, whatever the ignored bits are.
		if s := all &^ below; relate.Up(full, s) != 0 || relate.Down(full, s) != 0 {
			t.Errorf("numbers beyond %d points have neighbours", n)
		}
	}
}

// Up and Down follow single pairs, not sequences, and an element does not count by itself.
func TestUpDownOfARelationThatIsNotClosed(t *testing.T) {
	r := relate.Of(4, pair(0, 1), pair(1, 2), pair(2, 3))
	for _, c := range []struct{ s, up, down uint64 }{{0, 0, 0}, {1, 2, 0}, {2, 4, 1}, {4, 8, 2}, {8, 0, 4}, {9, 2, 4}, {15, 14, 7}, {16, 0, 0}} {
		if up, down := relate.Up(r, c.s), relate.Down(r, c.s); up != c.up || down != c.down {
			t.Errorf("Up, Down of %#x = %#x, %#x", c.s, up, down)
		}
	}
}

// P3.4: Order, Classes.

func TestOrder(t *testing.T) {
	orders := 0
	relations(func(u table, r api.Rel) {
		if got := relate.Order(r); got != u.order() {
			t.Fatalf("Order(%v) = %v", r, got)
		}
		if u.order() {
			orders++
		}
	})
	if orders < 100 {
		t.Errorf("only %d orders were tried", orders)
	}
}

// There are known numbers of closed relations and of orders of n points.
func TestNumbersOfOrders(t *testing.T) {
	for n, c := range []struct{ closed, orders int }{{1, 1}, {1, 1}, {4, 3}, {29, 19}, {355, 219}} {
		closed, orders := 0, 0
		for _, u := range small(n) {
			if relate.Closed(u.rel()) {
				closed++
			}
			if relate.Order(u.rel()) {
				orders++
			}
		}
		if closed != c.closed || orders != c.orders {
			t.Errorf("of %d points: %d closed relations and %d orders", n, closed, orders)
		}
	}
}

func TestOrderAtTheLimits(t *testing.T) {
	for _, n := range sizes() {
		none, same := api.Rel{N: n}, relate.Closure(relate.New(n))
		same.N = n
		if got, is := relate.Order(none), points(n) == 0; got != is {
			t.Errorf("Order of %d points without pairs = %v", n, got)
		}
		if !relate.Order(same) || !relate.Order(dirty(same)) {
			t.Errorf("equality of %d points is no order", n)
		}
		every := mixed(points(n), 1001, mixer(1)).rel()
		if got, is := relate.Order(every), points(n) < 2; got != is {
			t.Errorf("Order of %d points with every pair = %v", n, got)
		}
	}
	// Two points that are below each other are enough, wherever they are.
	for i := range 64 {
		for j := range i {
			r := relate.Closure(relate.Of(64, pair(i, j), pair(j, i)))
			if relate.Order(r) || !relate.Closed(r) || relate.Classes(r) != 63 {
				t.Errorf("%d and %d are below each other in an order", i, j)
			}
		}
	}
}

func TestClasses(t *testing.T) {
	relations(func(u table, r api.Rel) {
		if got, n := relate.Classes(r), u.classes(); got != n {
			t.Fatalf("Classes(%v) = %d, want %d", r, got, n)
		}
	})
	for _, u := range small(4) {
		if got, n := relate.Classes(u.rel()), u.classes(); got != n {
			t.Fatalf("Classes(%v) = %d, want %d", u, got, n)
		}
	}
}

func TestClassesAtTheLimits(t *testing.T) {
	for _, n := range sizes() {
		if got := relate.Classes(dirty(api.Rel{N: n})); got != points(n) {
			t.Errorf("Classes of %d points without pairs = %d", n, got)
		}
		every := mixed(points(n), 1001, mixer(1)).rel()
		every.N = n
		if got := relate.Classes(every); got != min(points(n), 1) {
			t.Errorf("Classes of %d points with every pair = %d", n, got)
		}
	}
	// Only the closure of a cycle has one class.
	if a, b := relate.Classes(chain(64, false).rel()), relate.Classes(chain(64, true).rel()); a != 64 || b != 1 {
		t.Errorf("Classes of a chain = %d, of a cycle = %d", a, b)
	}
	r := relate.Of(7, pair(6, 2), pair(2, 6), pair(0, 5), pair(5, 3), pair(3, 0), pair(0, 2))
	if got := relate.Classes(r); got != 4 {
		t.Errorf("Classes(%v) = %d", r, got)
	}
}

// P3.5: Covers, Long.

func TestCoversLong(t *testing.T) {
	relations(func(u table, r api.Rel) {
		wantCovers(t, u, r)
	})
	for _, u := range small(4) {
		wantCovers(t, u, u.rel())
	}
}

// wantCovers compares Covers and Long of r with those of its table.
func wantCovers(t *testing.T, u table, r api.Rel) {
	t.Helper()
	l := relate.Covers(r)
	n, is := relate.Long(r)
	if !u.order() {
		if l != nil || n != 0 || is {
			t.Fatalf("%v is no order, but has Covers %v and Long %d, %v", r, l, n, is)
		}
		return
	}
	if !slices.Equal(l, u.covers()) {
		t.Fatalf("Covers(%v) = %v, want %v", r, l, u.covers())
	}
	if n != u.long() || !is {
		t.Fatalf("Long(%v) = %d, %v, want %d", r, n, is, u.long())
	}
	if !slices.IsSortedFunc(l, func(a, b api.Pair) int { return cmp.Or(cmp.Compare(a.Low, b.Low), cmp.Compare(a.High, b.High)) }) {
		t.Fatalf("Covers(%v) = %v, which is not sorted", r, l)
	}
}

func TestCoversLongAtTheLimits(t *testing.T) {
	for _, n := range sizes() {
		p := points(n)
		r := relate.Closure(chain(p, false).rel())
		r.N = n
		l := relate.Covers(dirty(r))
		if len(l) != max(p-1, 0) {
			t.Errorf("a chain of %d points has %d covers", n, len(l))
		}
		for i, c := range l {
			if c != pair(i, i+1) {
				t.Errorf("cover %d of a chain of %d points is %v", i, n, c)
			}
		}
		if got, is := relate.Long(dirty(r)); got != max(p-1, 0) || !is {
			t.Errorf("Long of a chain of %d points = %d, %v", n, got, is)
		}
		same := relate.Closure(relate.New(n))
		if l := relate.Covers(same); len(l) != 0 {
			t.Errorf("equality of %d points has the covers %v", n, l)
		}
		if got, is := relate.Long(same); got != 0 || !is {
			t.Errorf("Long of equality of %d points = %d, %v", n, got, is)
		}
		every := mixed(p, 1001, mixer(1)).rel()
		if got, is := relate.Long(every); got != 0 || is != (p < 2) || len(relate.Covers(every)) != 0 {
			t.Errorf("Long of %d points with every pair = %d, %v", n, got, is)
		}
	}
}

// What is no order has neither, even if its closure is one.
func TestCoversLongOfWhatIsNoOrder(t *testing.T) {
	for _, r := range []api.Rel{
		relate.New(1),
		relate.Of(2, pair(0, 0), pair(0, 1)),
		relate.Of(3, pair(0, 0), pair(1, 1), pair(2, 2), pair(0, 1), pair(1, 2)),
		relate.Of(2, pair(0, 0), pair(1, 1), pair(0, 1), pair(1, 0)),
		chain(64, false).rel(),
		chain(64, true).closure().rel(),
	} {
		if l := relate.Covers(r); l != nil {
			t.Errorf("Covers(%v) = %v", r, l)
		}
		if n, is := relate.Long(r); n != 0 || is {
			t.Errorf("Long(%v) = %d, %v", r, n, is)
		}
	}
}

// The longest way is not that of the fewest covers, nor that of the points in their order.
func TestLongTakesTheLongestWay(t *testing.T) {
	r := relate.Closure(relate.Of(7, pair(6, 1), pair(6, 4), pair(4, 0), pair(0, 3), pair(3, 1), pair(6, 2), pair(2, 1)))
	if n, is := relate.Long(r); n != 4 || !is {
		t.Errorf("Long = %d, %v", n, is)
	}
	if l, c := relate.Covers(r), []api.Pair{pair(0, 3), pair(2, 1), pair(3, 1), pair(4, 0), pair(6, 2), pair(6, 4)}; !slices.Equal(l, c) {
		t.Errorf("Covers = %v", l)
	}
	if n, is := relate.Long(subsets(64).rel()); n != 6 || !is {
		t.Errorf("Long of the subsets of six numbers = %d, %v", n, is)
	}
	if l := relate.Covers(subsets(64).rel()); len(l) != 6*32 {
		t.Errorf("the subsets of six numbers have %d covers", len(l))
	}
}

// An order of 64 points has at most 32 * 32 covers.
func TestManyCovers(t *testing.T) {
	u := empty(64)
	for i := range 32 {
		for j := range 32 {
			u[i*2][j*2+1] = true
		}
	}
	r := u.closure().rel()
	if l := relate.Covers(r); len(l) != 1024 || l[0] != pair(0, 1) || l[1023] != pair(62, 63) {
		t.Errorf("%d covers", len(l))
	}
	if n, is := relate.Long(r); n != 1 || !is {
		t.Errorf("Long = %d, %v", n, is)
	}
}

func TestCoversAreNewMemory(t *testing.T) {
	r := relate.Closure(chain(9, false).rel())
	first, second := relate.Covers(r), relate.Covers(r)
	for i := range first {
		first[i] = pair(-1, -1)
	}
	if third := relate.Covers(r); !slices.Equal(second, chain(9, false).closure().covers()) || !slices.Equal(second, third) {
		t.Errorf("lists of covers share memory: %v, %v", second, third)
	}
}

// P3.6: the laws.

// The closure is closed, contains the relation, and is contained in every closed relation that contains it.
func TestClosureIsTheLeast(t *testing.T) {
	for n := range 5 {
		var closed []api.Rel
		for _, u := range small(n) {
			if relate.Closed(u.rel()) {
				closed = append(closed, u.rel())
			}
		}
		for _, u := range small(n) {
			r := u.rel()
			c := relate.Closure(r)
			if !relate.Closed(c) || !within(r, c) {
				t.Fatalf("Closure(%v) = %v", u, read(c))
			}
			for _, d := range closed {
				if within(r, d) && !within(c, d) {
					t.Fatalf("Closure(%v) = %v is not contained in %v", u, read(c), read(d))
				}
			}
		}
	}
}

// within reports whether all related pairs of a, which has no ignored bits, are related in b.
func within(a, b api.Rel) bool {
	for i := range a.N {
		if a.Up[i]&^b.Up[i] != 0 {
			return false
		}
	}
	return true
}

func TestClosureOfManyPointsIsClosed(t *testing.T) {
	relations(func(u table, r api.Rel) {
		c := relate.Closure(r)
		if !relate.Closed(c) || !read(c).closed() || !within(u.rel(), c) || !relate.Same(c, relate.Closure(c)) {
			t.Fatalf("Closure(%v) = %v", r, c)
		}
		if !relate.Same(c, relate.Closure(relate.With(c, 0, 0))) {
			t.Fatalf("a closed relation changes with a point below itself: %v", c)
		}
	})
}

func TestOrderIsTheClosureOfItsCovers(t *testing.T) {
	relations(func(u table, r api.Rel) {
		if relate.Order(r) {
			want(t, "Closure of the covers", relate.Closure(relate.Of(r.N, relate.Covers(r)...)), u.rel())
		}
	})
	for _, u := range small(4) {
		if r := u.rel(); relate.Order(r) {
			want(t, "Closure of the covers", relate.Closure(relate.Of(4, relate.Covers(r)...)), r)
		}
	}
}

// P1: no call panics or goes on forever, whatever it is given.

func TestAnyArguments(t *testing.T) {
	next := mixer(11)
	some := words()[:6]
	for range 500 {
		r := api.Rel{N: sizes()[next(len(sizes()))]}
		for i := range r.Up {
			r.Up[i] = uint64(next(1<<31))<<33 ^ uint64(next(1<<31))<<10 ^ uint64(next(1<<10))
			if next(3) == 0 {
				r.Up[i] = some[next(len(some))]
			}
		}
		u := read(r)
		want(t, "Closure", relate.Closure(r), u.closure().rel())
		if relate.Closed(r) != u.closed() || relate.Order(r) != u.order() || relate.Classes(r) != u.classes() || !relate.Same(r, u.rel()) {
			t.Fatalf("a wrong answer about %v", r)
		}
		wantCovers(t, u, r)
		i, j := numbers()[next(len(numbers()))], numbers()[next(len(numbers()))]
		want(t, "With and Has", relate.With(r, i, j), relate.Of(r.N, append(pairs(u), pair(i, j))...))
	}
}

// pairs returns the related pairs of t.
func pairs(t table) []api.Pair {
	var l []api.Pair
	for i := range t {
		for j := range t {
			if t[i][j] {
				l = append(l, pair(i, j))
			}
		}
	}
	return l
}
