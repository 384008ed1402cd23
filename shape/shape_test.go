package shape_test

import (
	"math"
	"reflect"
	"slices"
	"strconv"
	"strings"
	"testing"

	"clearance/api"
	"clearance/shape"
)

// names returns n different names, in a list with other strings beyond its length.
func names(n int) []string {
	l := make([]string, 0, n+3)
	for i := range n + 3 {
		l = append(l, "n"+strconv.Itoa(i))
	}
	return l[:n]
}

// made returns the relation of n points in which exactly those are related for which below holds.
func made(n int, below func(i, j int) bool) api.Rel {
	r := api.Rel{N: n}
	for i := range n {
		for j := range n {
			if below(i, j) {
				r.Up[i] += 1 << j
			}
		}
	}
	return r
}

// turned returns r with each point renamed to the last one minus its number, so that its bottom has another number.
func turned(r api.Rel) api.Rel {
	return made(r.N, func(i, j int) bool { return has(r, r.N-1-i, r.N-1-j) })
}

// soiled returns r with all bits set that no point has.
func soiled(r api.Rel) api.Rel {
	for i := range r.Up {
		if i >= r.N {
			r.Up[i] = math.MaxUint64
		}
		if r.N < 64 {
			r.Up[i] |= math.MaxUint64 << max(r.N, 0)
		}
	}
	return r
}

// has reports whether point i of r is below its point j.
func has(r api.Rel, i, j int) bool {
	return r.Up[i]>>j&1 == 1
}

// ladder returns the order of n points in which every two are related.
func ladder(n int) api.Rel {
	return made(n, func(i, j int) bool { return i <= j })
}

// apart returns the order of n points in which no two are related.
func apart(n int) api.Rel {
	return made(n, func(i, j int) bool { return i == j })
}

// ring returns the closed relation of n points in which all are below each other.
func ring(n int) api.Rel {
	return made(n, func(i, j int) bool { return true })
}

// sets returns the order of the subsets of n atoms.
func sets(n int) api.Rel {
	return made(1<<n, func(i, j int) bool { return i&^j == 0 })
}

// flat returns the order of n points in which all but the first and the last one are between these and otherwise unrelated.
func flat(n int) api.Rel {
	return made(n, func(i, j int) bool { return i == j || i == 0 || j == n-1 })
}

// pentagon returns the order 0 < 1 < 2 < 4 and 0 < 3 < 4.
func pentagon() api.Rel {
	return made(5, func(i, j int) bool { return i == j || i == 0 || j == 4 || i == 1 && j == 2 })
}

// crossed returns an order with a bottom and a top in which points 1 and 2 have no join, and 3 and 4 no meet.
func crossed() api.Rel {
	return made(6, func(i, j int) bool { return i == j || i == 0 || j == 5 || i < 3 && j > 2 })
}

func chain(n int) api.Factor {
	return api.Factor{Kind: api.Chain, Names: names(n)}
}

func power(n int) api.Factor {
	return api.Factor{Kind: api.Power, Names: names(n)}
}

func grid(r api.Rel) api.Factor {
	return api.Factor{Kind: api.Grid, Names: names(r.N), Rel: r}
}

func table(r api.Rel) api.Factor {
	return api.Factor{Kind: api.Table, Names: names(r.N), Rel: r}
}

// single returns the shape of f without calling the package.
func single(f api.Factor) api.Shape {
	return api.Shape{Factors: []api.Factor{f}}
}

// tuple returns the Tuple of these factors without calling the package.
func tuple(l ...api.Factor) api.Shape {
	return api.Shape{Tuple: true, Factors: l}
}

// small returns valid factors of few words.
func small() []api.Factor {
	l := []api.Factor{
		chain(1), chain(2), chain(3), chain(7),
		power(1), power(2), power(4),
		grid(apart(1)), grid(apart(2)), grid(ladder(2)), grid(turned(ladder(2))), grid(ring(2)), grid(ladder(3)), grid(ring(3)),
		grid(made(3, func(i, j int) bool { return i == j || i == 0 })),
		grid(made(3, func(i, j int) bool { return i < 2 || j == 2 })),
		table(ladder(1)), table(ladder(3)), table(sets(2)), table(sets(3)), table(flat(4)), table(flat(5)), table(pentagon()),
		table(turned(ladder(4))), table(turned(flat(5))), table(turned(pentagon())),
	}
	for _, f := range l[7:] {
		f.Rel = soiled(f.Rel)
		l = append(l, f)
	}
	return l
}

// large returns valid factors at the limits.
func large() []api.Factor {
	return []api.Factor{
		chain(63), chain(64), power(63), power(64),
		grid(apart(8)), grid(ladder(8)), grid(ring(8)), grid(turned(ladder(7))),
		table(ladder(64)), table(sets(6)), table(flat(64)), table(turned(flat(63))), table(turned(sets(6))),
	}
}

// wrong returns factors that are not valid.
func wrong() []api.Factor {
	l := []api.Factor{{}, {Kind: api.Chain}, {Kind: api.Power}, {Kind: api.Grid}, {Kind: api.Table}}
	l = append(l, chain(65), power(65), power(1000), grid(ladder(9)), grid(ring(64)))
	for _, kind := range []int{0, -1, 5, 97, math.MinInt, math.MaxInt} {
		l = append(l, api.Factor{Kind: kind, Names: names(2)}, api.Factor{Kind: kind, Names: names(2), Rel: ladder(2)})
	}
	for _, n := range []int{1, 2, 3, 64, 65, math.MaxInt} {
		points := api.Rel{N: n}
		l = append(l, api.Factor{Kind: api.Chain, Names: names(2), Rel: points}, api.Factor{Kind: api.Power, Names: names(2), Rel: points})
	}
	for _, kind := range []int{api.Grid, api.Table} {
		for _, n := range []int{math.MinInt, -1, 0, 1, 3, 65, math.MaxInt} {
			r := ladder(64)
			r.N = n
			l = append(l, api.Factor{Kind: kind, Names: names(2), Rel: r})
		}
		// The first relation is not reflexive, the second one not transitive.
		l = append(l,
			api.Factor{Kind: kind, Names: names(2), Rel: made(2, func(i, j int) bool { return i < 1 })},
			api.Factor{Kind: kind, Names: names(3), Rel: made(3, func(i, j int) bool { return i == j || j == i+1 })},
			api.Factor{Kind: kind, Names: names(0), Rel: ladder(1)})
	}
	for _, n := range []int{65, 66, math.MaxInt} {
		r := ladder(64)
		r.N = n
		l = append(l, api.Factor{Kind: api.Table, Names: names(64), Rel: r}, api.Factor{Kind: api.Table, Names: names(65), Rel: r})
	}
	l = append(l, table(ring(2)), table(apart(2)), table(crossed()), table(made(3, func(i, j int) bool { return i == j || i == 0 })))
	return append(l, misnamed()...)
}

// misnamed returns factors of each kind that are not valid because of their names.
func misnamed() []api.Factor {
	var l []api.Factor
	for _, bad := range []string{"", "A", "1", "_", "a-b", "ä", "n0", "n2", "a ", strings.Repeat("a", 17)} {
		for _, f := range []api.Factor{chain(4), power(4), grid(ladder(4)), table(ladder(4))} {
			// The second name is equal to the first or to the third one, or no name.
			f.Names[1] = bad
			l = append(l, f)
		}
	}
	for _, f := range []api.Factor{chain(64), power(64), table(ladder(64))} {
		f.Names[63] = "n0"
		l = append(l, f)
	}
	return l
}

// wrongShapes returns shapes that are not valid.
func wrongShapes() []api.Shape {
	l := []api.Shape{{}, tuple(), {Factors: []api.Factor{chain(2), chain(2)}}, {Factors: slices.Repeat([]api.Factor{chain(2)}, 8)}, tuple(slices.Repeat([]api.Factor{chain(2)}, 9)...), tuple(slices.Repeat([]api.Factor{chain(2)}, 500)...)}
	for _, f := range wrong() {
		l = append(l, single(f), tuple(f), tuple(f, chain(2)), tuple(chain(2), power(2), f))
	}
	for i := range 8 {
		l = append(l, tuple(slices.Insert(slices.Repeat([]api.Factor{power(2)}, 7), i, table(apart(2)))...))
	}
	return l
}

// rightShapes returns valid shapes.
func rightShapes() []api.Shape {
	var l []api.Shape
	factors := append(small(), large()...)
	for i, f := range factors {
		other := factors[(i*7+3)%len(factors)]
		l = append(l, single(f), tuple(f), tuple(f, other), tuple(other, power(3), f))
	}
	for n := 1; n <= 8; n++ {
		l = append(l, tuple(factors[:n]...), tuple(factors[len(factors)-n:]...), tuple(slices.Repeat([]api.Factor{table(flat(64))}, n)...))
	}
	return l
}

// shapes returns all shapes that the tests take.
func shapes() []api.Shape {
	return append(rightShapes(), wrongShapes()...)
}

// numbers returns a function that makes one number after the other, the same ones in each test.
func numbers() func() uint64 {
	x := uint64(88172645463325252)
	return func() uint64 {
		x ^= x << 13
		x ^= x >> 7
		x ^= x << 17
		return x
	}
}

// copyOf returns s in new memory, without what is beyond the lengths of its lists.
func copyOf(s api.Shape) api.Shape {
	c := api.Shape{Tuple: s.Tuple}
	for _, f := range s.Factors {
		f.Names = append([]string{}, f.Names...)
		c.Factors = append(c.Factors, f)
	}
	return c
}

// equal fails unless got is exactly the shape wanted.
func equal(t *testing.T, what string, got, wanted api.Shape) {
	t.Helper()
	if !reflect.DeepEqual(copyOf(got), copyOf(wanted)) {
		t.Fatalf("%s: %v instead of %v", what, got, wanted)
	}
}

// closed reports whether w, a word of principals only, is closed as chapter 5 defines it.
func closed(r api.Rel, w uint64) bool {
	for p := range r.N {
		for y := range r.N {
			for o := range r.N {
				for x := range r.N {
					if w>>(8*p+y)&1 == 1 && has(r, o, p) && has(r, x, y) && w>>(8*o+x)&1 == 0 {
						return false
					}
				}
			}
		}
	}
	return true
}

// all returns the word with all bits of principals.
func all(r api.Rel) uint64 {
	var w uint64
	for o := range r.N {
		for x := range r.N {
			w += 1 << (8*o + x)
		}
	}
	return w
}

// below returns the word of point i of a table.
func below(r api.Rel, i int) uint64 {
	var w uint64
	for k := range r.N {
		if has(r, k, i) {
			w += 1 << k
		}
	}
	return w
}

// isWord follows the definition of the words of a valid factor.
func isWord(f api.Factor, w uint64) bool {
	n := len(f.Names)
	switch f.Kind {
	case api.Chain:
		for k := range n {
			if w == 1<<k-1 {
				return true
			}
		}
		return false
	case api.Power:
		for i := n; i < 64; i++ {
			if w>>i&1 == 1 {
				return false
			}
		}
		return true
	case api.Grid:
		return w&^all(f.Rel) == 0 && closed(f.Rel, w)
	}
	for i := range n {
		if w == below(f.Rel, i) {
			return true
		}
	}
	return false
}

// words returns all words of a small factor.
func words(f api.Factor) []uint64 {
	n := len(f.Names)
	var l []uint64
	switch f.Kind {
	case api.Chain:
		for k := range n {
			l = append(l, 1<<k-1)
		}
	case api.Power:
		for w := range uint64(1) << n {
			l = append(l, w)
		}
	case api.Grid:
		for bits := range uint64(1) << (n * n) {
			var w uint64
			for o := range n {
				w |= bits >> (n * o) % (1 << n) << (8 * o)
			}
			if closed(f.Rel, w) {
				l = append(l, w)
			}
		}
	case api.Table:
		for i := range n {
			l = append(l, below(f.Rel, i))
		}
	}
	return l
}

// tried returns words that belong to f, and words that do not.
func tried(f api.Factor) []uint64 {
	next := numbers()
	l := []uint64{0, math.MaxUint64, all(f.Rel), 1<<len(f.Names) - 1, 1 << len(f.Names), 1<<(len(f.Names)-1) - 1, 1 << (len(f.Names) - 1), next(), next()}
	if f.Kind == api.Chain || f.Kind == api.Table || len(f.Names) < 5 {
		l = append(l, words(f)...)
	}
	// Of the many words of a large factor, each is changed at a few bits only, but all of them together at every one.
	step := 2
	if len(f.Names) > 8 {
		step = 16
	}
	for k, w := range l {
		for i := k % step; i < 64; i += step {
			l = append(l, w^1<<i)
		}
	}
	return l
}

// elements returns all elements of a shape of small factors.
func elements(s api.Shape) []api.Elem {
	l := []api.Elem{{}}
	for i, f := range s.Factors {
		var more []api.Elem
		for _, e := range l {
			for _, w := range words(f) {
				e[i] = w
				more = append(more, e)
			}
		}
		l = more
	}
	return l
}

// leq reports whether each bit of a is a bit of b.
func leq(a, b api.Elem) bool {
	for i := range 8 {
		for k := range 64 {
			if a[i]>>k&1 > b[i]>>k&1 {
				return false
			}
		}
	}
	return true
}

// P7.1: One, Product, Right, Same.

func TestOne(t *testing.T) {
	for _, f := range slices.Concat(small(), large(), wrong()) {
		equal(t, "one", shape.One(f), single(f))
	}
	negative := api.Factor{Kind: -7, Names: []string{"", "x", "x"}, Rel: soiled(api.Rel{N: -3})}
	equal(t, "one", shape.One(negative), single(negative))
}

func TestOneIsNewMemory(t *testing.T) {
	f := grid(ladder(2))
	s := shape.One(f)
	s.Factors[0].Names[0] = "other"
	_ = append(s.Factors[0].Names, "beyond")
	if !slices.Equal(f.Names[:5], []string{"n0", "n1", "n2", "n3", "n4"}) {
		t.Error(f.Names[:5])
	}
	s = shape.One(f)
	f.Names[1] = "later"
	if s.Factors[0].Names[1] != "n1" {
		t.Error(s.Factors[0].Names)
	}
	if l := s.Factors[0].Names; slices.Contains(l[:cap(l)], "n2") {
		t.Error("what is beyond the length of a list is returned")
	}
}

func TestProduct(t *testing.T) {
	l := shapes()
	for i, s := range l {
		a, b := l[(i*5+1)%len(l)], l[(i*11+7)%len(l)]
		equal(t, "product of one", shape.Product(s), tuple(s.Factors...))
		equal(t, "product of two", shape.Product(s, a), tuple(slices.Concat(s.Factors, a.Factors)...))
		equal(t, "product of three", shape.Product(a, s, b), tuple(slices.Concat(a.Factors, s.Factors, b.Factors)...))
		equal(t, "product of a product", shape.Product(shape.Product(s, a), b), tuple(slices.Concat(s.Factors, a.Factors, b.Factors)...))
	}
	equal(t, "product of nothing", shape.Product(), tuple())
	equal(t, "product of an empty list", shape.Product([]api.Shape{}...), tuple())
	equal(t, "product of nothings", shape.Product(api.Shape{}, tuple()), tuple())
	var many []api.Factor
	for _, s := range l {
		many = append(many, s.Factors...)
	}
	equal(t, "product of all", shape.Product(l...), tuple(many...))
}

func TestProductIsNewMemory(t *testing.T) {
	s := single(chain(2))
	pair := tuple(power(3), grid(ladder(2)))
	p := shape.Product(s, pair, s)
	p.Factors[0].Names[0] = "other"
	p.Factors[1].Kind = 77
	_ = append(p.Factors[2].Names, "beyond")
	equal(t, "first argument", s, single(chain(2)))
	equal(t, "second argument", pair, tuple(power(3), grid(ladder(2))))
	if !slices.Equal(pair.Factors[1].Names[:4], names(4)) {
		t.Error("written beyond the length", pair.Factors[1].Names[:4])
	}
	if p.Factors[3].Names[0] != "n0" {
		t.Error("two lists of the result share memory")
	}
	p = shape.Product(s)
	s.Factors[0].Names[0] = "later"
	s.Factors[0].Kind = 77
	equal(t, "result", p, tuple(chain(2)))
	pair.Factors = slices.Grow(pair.Factors, 3)
	beyond := pair.Factors[:3]
	beyond[2] = chain(5)
	shape.Product(api.Shape{Tuple: true, Factors: beyond[:2]}, single(power(2)))
	equal(t, "what is beyond the length", single(beyond[2]), single(chain(5)))
}

func TestRight(t *testing.T) {
	for _, s := range rightShapes() {
		if !shape.Right(s) {
			t.Fatal("not valid:", s)
		}
	}
	for _, s := range wrongShapes() {
		if shape.Right(s) {
			t.Fatal("valid:", s)
		}
	}
}

func TestNumbersOfNames(t *testing.T) {
	for n := range 70 {
		for _, c := range []struct {
			f    api.Factor
			most int
		}{{chain(n), 64}, {power(n), 64}, {grid(ladder(min(n, 64))), 8}, {table(ladder(min(n, 64))), 64}} {
			c.f.Names = names(n)
			if got := shape.Right(single(c.f)); got != (n >= 1 && n <= c.most) {
				t.Errorf("kind %d with %d names: %v", c.f.Kind, n, got)
			}
		}
	}
}

func TestNumbersOfPoints(t *testing.T) {
	for points := -2; points < 70; points++ {
		for n := 1; n < 10; n++ {
			r := soiled(ladder(64))
			r.N = points
			for _, c := range []struct {
				kind   int
				wanted bool
			}{{api.Chain, points <= 0}, {api.Power, points <= 0}, {api.Grid, points == n && n <= 8}, {api.Table, points == n}} {
				if got := shape.Right(single(api.Factor{Kind: c.kind, Names: names(n), Rel: r})); got != c.wanted {
					t.Errorf("kind %d with %d names and %d points: %v", c.kind, n, points, got)
				}
			}
		}
	}
}

func TestRelationsWithoutPoints(t *testing.T) {
	for _, n := range []int{0, -1, -64, math.MinInt} {
		for _, f := range []api.Factor{chain(3), power(64)} {
			f.Rel = soiled(api.Rel{N: n})
			if !shape.Right(single(f)) {
				t.Error(f.Kind, n)
			}
		}
	}
}

func TestNamesAtTheLimits(t *testing.T) {
	for s, wanted := range map[string]bool{"a": true, "z_9": true, "abcdefghijklmnop": true, "abcdefghijklmnopq": false, "": false, "9a": false, "_a": false, "aB": false, "a\x00": false} {
		for _, f := range []api.Factor{chain(2), power(2), grid(ladder(2)), table(ladder(2))} {
			f.Names[1] = s
			if shape.Right(single(f)) != wanted {
				t.Errorf("kind %d with the name %q", f.Kind, s)
			}
		}
	}
}

func TestWidths(t *testing.T) {
	for n := range 20 {
		l := slices.Repeat([]api.Factor{chain(3)}, n)
		if shape.Right(tuple(l...)) != (n >= 1 && n <= 8) {
			t.Error("tuple", n)
		}
		if shape.Right(api.Shape{Factors: l}) != (n == 1) {
			t.Error("no tuple", n)
		}
	}
}

// differing returns shapes no two of which are the same.
func differing() []api.Shape {
	named, short := chain(3), chain(3)
	named.Names[2] = "other"
	short.Names = short.Names[:2]
	swapped := chain(3)
	swapped.Names[0], swapped.Names[1] = "n1", "n0"
	related := chain(3)
	related.Rel = api.Rel{N: 1}
	one := related
	one.Rel.Up[0] = 1
	l := []api.Shape{
		{}, tuple(), single(api.Factor{}), tuple(api.Factor{}), tuple(api.Factor{}, api.Factor{}),
		single(chain(3)), tuple(chain(3)), single(power(3)), single(named), single(short), single(swapped), single(related), single(one),
		tuple(chain(3), power(3)), tuple(power(3), chain(3)), tuple(chain(3), chain(3)), tuple(chain(3), power(3), chain(3)),
		{Factors: []api.Factor{chain(3), power(3)}},
		single(grid(ladder(3))), single(table(ladder(3))), single(grid(ring(3))), single(grid(turned(ladder(3)))), single(table(turned(ladder(3)))),
		single(grid(ladder(4))), single(table(sets(6))), single(table(flat(64))), single(api.Factor{Kind: -1}), single(api.Factor{Kind: math.MaxInt}),
		tuple(slices.Repeat([]api.Factor{chain(3)}, 8)...), tuple(slices.Repeat([]api.Factor{chain(3)}, 9)...), tuple(slices.Repeat([]api.Factor{chain(3)}, 100)...),
	}
	for i := range 12 {
		l = append(l, tuple(slices.Insert(slices.Repeat([]api.Factor{chain(3)}, 11), i, table(pentagon()))...))
	}
	return l
}

func TestSame(t *testing.T) {
	l := differing()
	for i, a := range l {
		for j, b := range l {
			if shape.Same(a, copyOf(b)) != (i == j) {
				t.Fatalf("%v and %v: %v", a, b, i != j)
			}
		}
	}
	for _, s := range shapes() {
		if !shape.Same(s, copyOf(s)) {
			t.Fatal(s)
		}
	}
}

func TestSameIgnoresWhatIsNoPoint(t *testing.T) {
	for _, kind := range []int{api.Chain, api.Grid, api.Table, 9} {
		for n := -2; n < 68; n++ {
			a := api.Factor{Kind: kind, Names: names(3), Rel: ladder(64)}
			a.Rel.N = n
			b := a
			b.Rel = soiled(a.Rel)
			if !shape.Same(single(a), single(b)) {
				t.Error(kind, n)
			}
			b.Rel.N = min(max(n, 0), 64)
			if !shape.Same(tuple(b), tuple(a)) {
				t.Error(kind, n)
			}
		}
	}
	if !shape.Same(single(api.Factor{Names: []string{}}), single(api.Factor{})) || !shape.Same(api.Shape{Factors: []api.Factor{}}, api.Shape{}) {
		t.Error("an empty list is not a nil list")
	}
}

// P7.2: Leq, Meet, Join.

// mixed returns elements of any words, many of which differ in a bit only.
func mixed() []api.Elem {
	next := numbers()
	l := []api.Elem{{}, {1}, {0, 1}, {math.MaxUint64, 0, math.MaxUint64}}
	for i := range 8 {
		var e api.Elem
		for k := range e {
			e[k] = next() & next()
		}
		l = append(l, e)
		for _, k := range []int{0, 1, 31, 63} {
			e[i] ^= 1 << k
			l = append(l, e)
		}
	}
	var full api.Elem
	for i := range full {
		full[i] = math.MaxUint64
	}
	for i := range full {
		less := full
		less[i] -= 1 << (9 * i)
		l = append(l, less)
	}
	return append(l, full)
}

func TestLeq(t *testing.T) {
	for _, a := range mixed() {
		for _, b := range mixed() {
			if shape.Leq(a, b) != leq(a, b) {
				t.Fatalf("%b and %b: %v", a, b, !leq(a, b))
			}
		}
	}
}

func TestLeqComparesEveryWord(t *testing.T) {
	for i := range 8 {
		for k := range 64 {
			var e api.Elem
			e[i] = 1 << k
			if shape.Leq(e, api.Elem{}) || !shape.Leq(api.Elem{}, e) || !shape.Leq(e, e) {
				t.Error(i, k)
			}
		}
	}
}

func TestMeet(t *testing.T) {
	for _, a := range mixed() {
		for _, b := range mixed() {
			got := shape.Meet(a, b)
			for i := range 8 {
				if got[i] != a[i]&b[i] {
					t.Fatalf("%b and %b: %b", a, b, got)
				}
			}
		}
	}
}

// raised follows the promise of hasse.Raise for an order.
func raised(r api.Rel, a, b uint64) uint64 {
	is := func(w uint64) bool { return isWord(api.Factor{Kind: api.Table, Names: names(r.N), Rel: r}, w) }
	if !is(a) || !is(b) {
		return a | b
	}
	for k := range r.N {
		w := below(r, k)
		least := w&(a|b) == a|b
		for other := range r.N {
			above := below(r, other)
			least = least && (above&(a|b) != a|b || w&above == w)
		}
		if least {
			return w
		}
	}
	return a | b
}

// joins fails unless the join of a and b is what the promise says, for shapes whose tables are orders.
func joins(t *testing.T, s api.Shape, a, b api.Elem) {
	t.Helper()
	got := shape.Join(s, a, b)
	for i := range 8 {
		wanted := a[i] | b[i]
		if i < len(s.Factors) && s.Factors[i].Kind == api.Table {
			wanted = raised(s.Factors[i].Rel, a[i], b[i])
		}
		if got[i] != wanted {
			t.Fatalf("%v: %b and %b have the word %b instead of %b at %d", s, a, b, got[i], wanted, i)
		}
	}
}

func TestJoin(t *testing.T) {
	for _, f := range small() {
		l := tried(f)
		for i, a := range l {
			b := l[(i*13+5)%len(l)]
			joins(t, single(f), api.Elem{a, b, a}, api.Elem{b, a, 5})
			joins(t, tuple(chain(2), f), api.Elem{a, a}, api.Elem{b, b})
			joins(t, tuple(table(flat(4)), f, table(flat(5))), api.Elem{3, a, 3}, api.Elem{5, b, 9})
		}
		for _, a := range words(f) {
			for _, b := range words(f) {
				joins(t, single(f), api.Elem{a}, api.Elem{b})
			}
		}
	}
}

func TestJoinOfAnyElements(t *testing.T) {
	l := mixed()
	for i, s := range rightShapes() {
		joins(t, s, l[i%len(l)], l[(i*7+4)%len(l)])
		joins(t, s, l[i%len(l)], shape.Top(s))
		joins(t, s, shape.Bottom(s), shape.Top(s))
	}
}

func TestJoinRaisesTablesOnly(t *testing.T) {
	// In the table the join of 3 and 5 is more than their union.
	r := flat(5)
	for _, kind := range []int{0, api.Chain, api.Power, api.Grid, api.Table, 5} {
		wanted := uint64(7)
		if kind == api.Table {
			wanted = 31
		}
		for i := range 8 {
			l := slices.Repeat([]api.Factor{chain(2)}, 8)
			l[i] = api.Factor{Kind: kind, Names: names(5), Rel: r}
			var a, b, both api.Elem
			for k := range a {
				a[k], b[k], both[k] = 3, 5, 7
			}
			both[i] = wanted
			if got := shape.Join(tuple(l...), a, b); got != both {
				t.Errorf("kind %d at %d: %b", kind, i, got)
			}
		}
	}
}

func TestJoinInShapesThatAreNotValid(t *testing.T) {
	nameless := api.Factor{Kind: api.Table, Rel: flat(5)}
	for _, s := range []api.Shape{single(nameless), tuple(nameless), {Factors: []api.Factor{nameless, nameless}}, tuple(slices.Repeat([]api.Factor{nameless}, 9)...), tuple(slices.Repeat([]api.Factor{nameless}, 99)...)} {
		var a, b, both api.Elem
		for i := range a {
			a[i], b[i], both[i] = 3, 5, 7
			if i < len(s.Factors) {
				both[i] = 31
			}
		}
		if got := shape.Join(s, a, b); got != both {
			t.Errorf("%d factors: %b", len(s.Factors), got)
		}
	}
	for _, s := range []api.Shape{{}, tuple(), single(api.Factor{Kind: api.Table}), single(table(apart(5))), single(table(crossed()))} {
		if got := shape.Join(s, api.Elem{3, 1}, api.Elem{5, 2}); got != (api.Elem{7, 3}) {
			t.Errorf("%v: %b", s, got)
		}
	}
	// The two points are below each other: each has the word 3, and so has their join.
	if got := shape.Join(single(table(ring(2))), api.Elem{3}, api.Elem{3}); got != (api.Elem{3}) {
		t.Errorf("%b", got)
	}
}

// P7.3: Fits, Bottom, Top, Height.

func TestFitsOneFactor(t *testing.T) {
	for _, f := range append(small(), large()...) {
		found := 0
		for _, w := range tried(f) {
			wanted := isWord(f, w)
			if wanted {
				found++
			}
			for _, s := range []api.Shape{single(f), tuple(f)} {
				if shape.Fits(s, api.Elem{w}) != wanted {
					t.Fatalf("%v: %b: %v", s, w, !wanted)
				}
			}
		}
		if found == 0 {
			t.Error("no words tried", f)
		}
	}
}

func TestFitsSmallWords(t *testing.T) {
	for _, f := range small() {
		for w := range uint64(1 << 10) {
			if shape.Fits(single(f), api.Elem{w}) != isWord(f, w) {
				t.Fatalf("%v: %b: %v", f, w, !isWord(f, w))
			}
		}
	}
}

func TestFitsEveryFactor(t *testing.T) {
	l := small()
	for i, f := range append(l, large()...) {
		s := tuple(l[(i*5+2)%len(l)], f, l[(i*3+4)%len(l)])
		e := shape.Top(s)
		for _, w := range tried(f) {
			e[1] = w
			if shape.Fits(s, e) != isWord(f, w) {
				t.Fatalf("%v: %b", s, e)
			}
		}
	}
	s := tuple(slices.Repeat([]api.Factor{chain(4)}, 8)...)
	for i := range 8 {
		e := api.Elem{7, 3, 1, 0, 7, 3, 1, 0}
		if !shape.Fits(s, e) {
			t.Error(i)
		}
		e[i] = 2
		if shape.Fits(s, e) {
			t.Errorf("%b", e)
		}
	}
}

func TestFitsOnlyZerosAfterTheWords(t *testing.T) {
	for n := 1; n <= 8; n++ {
		s := tuple(slices.Repeat([]api.Factor{power(2)}, n)...)
		for i := range 8 {
			var e api.Elem
			e[i] = 1
			if shape.Fits(s, e) != (i < n) {
				t.Errorf("%d factors: %b", n, e)
			}
			e[i] = 1 << 63
			if shape.Fits(s, e) {
				t.Errorf("%d factors: %b", n, e)
			}
		}
	}
}

// ends returns the bottom and the top of a valid shape.
func ends(s api.Shape) (api.Elem, api.Elem) {
	var least, greatest api.Elem
	for i, f := range s.Factors {
		n := len(f.Names)
		switch f.Kind {
		case api.Chain:
			greatest[i] = 1<<(n-1) - 1
		case api.Power:
			for k := range n {
				greatest[i] += 1 << k
			}
		case api.Grid:
			greatest[i] = all(f.Rel)
		case api.Table:
			least[i] = math.MaxUint64
			for k := range n {
				least[i] &= below(f.Rel, k)
				greatest[i] |= below(f.Rel, k)
			}
		}
	}
	return least, greatest
}

func TestEnds(t *testing.T) {
	for _, s := range rightShapes() {
		least, greatest := ends(s)
		if got := shape.Bottom(s); got != least {
			t.Fatalf("%v: bottom %b instead of %b", s, got, least)
		}
		if got := shape.Top(s); got != greatest {
			t.Fatalf("%v: top %b instead of %b", s, got, greatest)
		}
		if !shape.Fits(s, least) || !shape.Fits(s, greatest) {
			t.Fatalf("%v: the ends are no elements", s)
		}
	}
}

// steps returns the greatest number of steps in a strictly ascending sequence in an order of n things.
func steps(n int, less func(i, j int) bool) int {
	above := make([]int, n)
	var longest func(i int) int
	longest = func(i int) int {
		if above[i] == 0 {
			above[i] = 1
			for j := range n {
				if less(i, j) {
					above[i] = max(above[i], 1+longest(j))
				}
			}
		}
		return above[i]
	}
	most := 0
	for i := range n {
		most = max(most, longest(i)-1)
	}
	return most
}

// tall follows the definition of the height of a valid factor.
func tall(f api.Factor) int {
	n := len(f.Names)
	switch f.Kind {
	case api.Chain:
		return n - 1
	case api.Power:
		return n
	case api.Table:
		return steps(n, func(i, j int) bool { return i != j && has(f.Rel, i, j) })
	}
	classes := 0
	for i := range n {
		first := true
		for j := range i {
			first = first && !(has(f.Rel, i, j) && has(f.Rel, j, i))
		}
		if first {
			classes++
		}
	}
	return classes * classes
}

func TestHeight(t *testing.T) {
	for _, s := range rightShapes() {
		wanted := 0
		for _, f := range s.Factors {
			wanted += tall(f)
		}
		if got := shape.Height(s); got != wanted {
			t.Fatalf("%v: %d instead of %d", s, got, wanted)
		}
	}
}

func TestHeightAtTheLimits(t *testing.T) {
	for _, c := range []struct {
		f      api.Factor
		height int
	}{
		{chain(1), 0}, {chain(2), 1}, {chain(64), 63},
		{power(1), 1}, {power(64), 64},
		{grid(apart(1)), 1}, {grid(ladder(2)), 4}, {grid(ring(2)), 1}, {grid(ladder(8)), 64}, {grid(apart(8)), 64}, {grid(ring(8)), 1},
		{table(ladder(1)), 0}, {table(ladder(64)), 63}, {table(flat(64)), 2}, {table(sets(6)), 6}, {table(pentagon()), 3},
	} {
		for n := 1; n <= 8; n++ {
			if got := shape.Height(tuple(slices.Repeat([]api.Factor{c.f}, n)...)); got != n*c.height {
				t.Errorf("%d factors of kind %d with %d names: %d", n, c.f.Kind, len(c.f.Names), got)
			}
		}
		if got := shape.Height(single(c.f)); got != c.height {
			t.Errorf("one of kind %d with %d names: %d", c.f.Kind, len(c.f.Names), got)
		}
	}
}

func TestExample1(t *testing.T) {
	s := shape.Product(shape.One(chain(3)), shape.One(power(2)))
	if shape.Height(s) != 4 || shape.Top(s) != (api.Elem{3, 3}) || shape.Bottom(s) != (api.Elem{}) {
		t.Error(shape.Height(s), shape.Top(s), shape.Bottom(s))
	}
}

func TestShapesThatAreNotValidHaveNothing(t *testing.T) {
	for _, s := range wrongShapes() {
		if shape.Bottom(s) != (api.Elem{}) || shape.Top(s) != (api.Elem{}) || shape.Height(s) != 0 {
			t.Fatal(s)
		}
		for _, e := range []api.Elem{{}, {1}, {1, 1, 1}, {1, 1, 1, 1, 1, 1, 1, 1}, {math.MaxUint64}} {
			if shape.Fits(s, e) {
				t.Fatalf("%v: %b", s, e)
			}
		}
	}
}

// P7.4: the laws.

// few returns valid shapes of so few elements that all of them can be compared.
func few() []api.Shape {
	var l []api.Shape
	for _, f := range small() {
		l = append(l, single(f))
		if n := len(words(f)); n < 12 {
			l = append(l, tuple(f, chain(2), table(flat(5))), tuple(grid(turned(ladder(2))), f))
		}
	}
	return append(l, tuple(slices.Repeat([]api.Factor{chain(2)}, 6)...), tuple(table(pentagon()), table(turned(pentagon())), power(1)))
}

func TestElementsFormALattice(t *testing.T) {
	for _, s := range few() {
		l := elements(s)
		for _, a := range l {
			if !shape.Fits(s, a) || !shape.Leq(shape.Bottom(s), a) || !shape.Leq(a, shape.Top(s)) {
				t.Fatalf("%v: %b is no element", s, a)
			}
		}
		for i, a := range l {
			// Of the other operand, a share is enough.
			for j := i % 5; j < len(l); j += 5 {
				bounds(t, s, l, a, l[j])
			}
		}
	}
}

// bounds fails unless the join and the meet of a and b are the least and the greatest bound among the elements l of s.
func bounds(t *testing.T, s api.Shape, l []api.Elem, a, b api.Elem) {
	t.Helper()
	join, meet := shape.Join(s, a, b), shape.Meet(a, b)
	if !slices.Contains(l, join) || !slices.Contains(l, meet) {
		t.Fatalf("%v: a bound of %b and %b is no element", s, a, b)
	}
	if (a == b) != (leq(a, b) && leq(b, a)) || !leq(a, join) || !leq(b, join) || !leq(meet, a) || !leq(meet, b) {
		t.Fatalf("%v: %b and %b have the join %b and the meet %b", s, a, b, join, meet)
	}
	for _, c := range l {
		if leq(a, c) && leq(b, c) && !leq(join, c) || leq(c, a) && leq(c, b) && !leq(c, meet) {
			t.Fatalf("%v: %b is a closer bound of %b and %b", s, c, a, b)
		}
	}
}

func TestNoSequenceIsLongerThanTheHeight(t *testing.T) {
	for _, s := range few() {
		l := elements(s)
		if got := steps(len(l), func(i, j int) bool { return i != j && leq(l[i], l[j]) }); got > shape.Height(s) {
			t.Fatalf("%v: %d steps, height %d", s, got, shape.Height(s))
		}
	}
}

// P1, and the rule that no argument is modified.

func TestNoArgumentIsModified(t *testing.T) {
	e := api.Elem{3, 5, 1, 7, math.MaxUint64, 0, 2, 9}
	for _, s := range shapes() {
		before := copyOf(s)
		var first api.Factor
		if len(s.Factors) > 0 {
			first = s.Factors[0]
		}
		shape.One(first)
		shape.Product(s, s)
		shape.Right(s)
		shape.Same(s, before)
		shape.Fits(s, e)
		shape.Join(s, e, e)
		shape.Bottom(s)
		shape.Top(s)
		shape.Height(s)
		equal(t, "argument", s, before)
	}
}
