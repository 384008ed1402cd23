package tally_test

import (
	"math"
	"reflect"
	"slices"
	"strconv"
	"sync"
	"testing"

	"clearance/api"
	"clearance/code"
	"clearance/shape"
	"clearance/tally"
)

// deepest is the greatest number of levels for which the document promises anything.
const deepest = 1 << 16

// elem returns the element with these words.
func elem(words ...uint64) api.Elem {
	var e api.Elem
	copy(e[:], words)
	return e
}

// mixed returns a function that returns numbers, the same ones in each test, in an order that is fixed but mixed.
func mixed() func() uint64 {
	x := uint64(88172645463325252)
	return func() uint64 {
		x ^= x << 13
		x ^= x >> 7
		x ^= x << 17
		return x
	}
}

// The relations.

// made returns the relation of n points in which exactly those are related for which below holds.
func made(n int, below func(i, j int) bool) api.Rel {
	r := api.Rel{N: n}
	for i := range n {
		for j := range n {
			if below(i, j) {
				r.Up[i] += 1 << j
			}
		}
	}
	return r
}

// points returns the number of points of r.
func points(r api.Rel) int { return min(max(r.N, 0), 64) }

// has reports whether point i of r is below its point j.
func has(r api.Rel, i, j int) bool { return r.Up[i]>>j&1 == 1 }

// turned returns r with each point renamed to the last one minus its number, so that its bottom has another number.
func turned(r api.Rel) api.Rel {
	return made(r.N, func(i, j int) bool { return has(r, r.N-1-i, r.N-1-j) })
}

// soiled returns r with all bits set that no point has.
func soiled(r api.Rel) api.Rel {
	n := points(r)
	for i := range r.Up {
		if i >= n {
			r.Up[i] = math.MaxUint64
		}
		if n < 64 {
			r.Up[i] |= math.MaxUint64 << n
		}
	}
	return r
}

// sized returns r with another N.
func sized(r api.Rel, n int) api.Rel {
	r.N = n
	return r
}

// ladder returns the order of n points in which every two are related.
func ladder(n int) api.Rel {
	return made(n, func(i, j int) bool { return i <= j })
}

// apart returns the order of n points in which no two are related.
func apart(n int) api.Rel {
	return made(n, func(i, j int) bool { return i == j })
}

// ring returns the closed relation of n points in which all are below each other.
func ring(n int) api.Rel {
	return made(n, func(i, j int) bool { return true })
}

// sets returns the order of the subsets of n atoms.
func sets(n int) api.Rel {
	return made(1<<n, func(i, j int) bool { return i&^j == 0 })
}

// flat returns the order of n points in which all but the first and the last one are between these and otherwise unrelated.
func flat(n int) api.Rel {
	return made(n, func(i, j int) bool { return i == j || i == 0 || j == n-1 })
}

// pentagon returns the order 0 < 1 < 2 < 4 and 0 < 3 < 4.
func pentagon() api.Rel {
	return made(5, func(i, j int) bool { return i == j || i == 0 || j == 4 || i == 1 && j == 2 })
}

// crossed returns an order with a bottom and a top in which points 1 and 2 have no join, and 3 and 4 no meet.
func crossed() api.Rel {
	return made(6, func(i, j int) bool { return i == j || i == 0 || j == 5 || i < 3 && j > 2 })
}

// lattices returns tables of 1 to 64 points.
func lattices() []api.Rel {
	l := []api.Rel{ladder(1), ladder(2), ladder(5), ladder(64), sets(2), sets(3), sets(6), flat(3), flat(4), flat(5), flat(63), flat(64), pentagon()}
	for _, r := range l {
		l = append(l, turned(r), soiled(r), soiled(turned(r)))
	}
	return l
}

// others returns relations that are no tables.
func others() []api.Rel {
	l := []api.Rel{{}, apart(2), apart(64), ring(2), ring(64), crossed(), turned(crossed()),
		made(3, func(i, j int) bool { return i == j || i == 0 }),
		made(3, func(i, j int) bool { return j == i+1 }),
		made(4, func(i, j int) bool { return i == j || j == i+1 }),
		made(4, func(i, j int) bool { return j == 3 }),
		sized(ladder(64), 65), sized(ladder(64), math.MaxInt), sized(flat(64), 65), sized(ladder(64), -1), sized(ladder(64), math.MinInt)}
	next := mixed()
	for n := range 7 {
		for range 8 {
			l = append(l, made(n, func(i, j int) bool { return next()%3 == 0 }))
		}
	}
	for _, r := range l {
		l = append(l, soiled(r))
	}
	return l
}

// The shapes.

// names returns n different names.
func names(n int) []string {
	var l []string
	for i := range n {
		l = append(l, "n"+strconv.Itoa(i))
	}
	return l
}

func chain(n int) api.Factor { return api.Factor{Kind: api.Chain, Names: names(n)} }
func power(n int) api.Factor { return api.Factor{Kind: api.Power, Names: names(n)} }
func grid(r api.Rel) api.Factor {
	return api.Factor{Kind: api.Grid, Names: names(points(r)), Rel: r}
}
func table(r api.Rel) api.Factor {
	return api.Factor{Kind: api.Table, Names: names(points(r)), Rel: r}
}

// single returns the shape of f.
func single(f api.Factor) api.Shape { return api.Shape{Factors: []api.Factor{f}} }

// tuple returns the Tuple of these factors.
func tuple(l ...api.Factor) api.Shape { return api.Shape{Tuple: true, Factors: l} }

// valid returns valid shapes.
func valid() []api.Shape {
	l := []api.Shape{single(chain(1)), single(chain(3)), single(chain(64)), single(power(2)), single(power(64)), single(grid(ladder(2))), single(grid(apart(8)))}
	for _, r := range lattices() {
		l = append(l, single(table(r)))
	}
	return append(l,
		tuple(table(flat(5))),
		tuple(chain(3), table(flat(5))),
		tuple(table(pentagon()), power(64), table(turned(flat(64)))),
		tuple(chain(3), power(2), grid(ladder(3)), table(flat(4)), table(sets(2)), chain(64), table(ladder(3)), table(flat(64))),
		tuple(slices.Repeat([]api.Factor{table(flat(64))}, 8)...))
}

// wrong returns shapes that are not valid.
func wrong() []api.Shape {
	var l []api.Shape
	for _, r := range others() {
		l = append(l, single(table(r)), tuple(chain(2), table(r), table(flat(5))))
	}
	unnamed := table(flat(5))
	unnamed.Names = nil
	doubled := table(flat(5))
	doubled.Names[1] = doubled.Names[3]
	related := chain(5)
	related.Rel = flat(5)
	for _, f := range []api.Factor{{}, unnamed, doubled, related, {Kind: api.Table}, {Kind: 0, Names: names(5), Rel: flat(5)}, {Kind: 5, Names: names(5), Rel: flat(5)}, {Kind: math.MinInt}, {Kind: math.MaxInt, Rel: flat(5)}, grid(flat(5)), chain(65), power(1000)} {
		l = append(l, single(f), tuple(f, table(flat(5)), table(turned(pentagon()))))
	}
	return append(l, api.Shape{}, api.Shape{Tuple: true},
		api.Shape{Factors: []api.Factor{table(flat(5)), table(flat(5))}},
		tuple(slices.Repeat([]api.Factor{table(flat(5))}, 9)...),
		tuple(slices.Repeat([]api.Factor{table(flat(5))}, 300)...),
		tuple(append(slices.Repeat([]api.Factor{chain(2)}, 8), table(flat(5)))...))
}

// copied returns s in memory of its own.
func copied(s api.Shape) api.Shape {
	s.Factors = slices.Clone(s.Factors)
	for i := range s.Factors {
		s.Factors[i].Names = slices.Clone(s.Factors[i].Names)
	}
	return s
}

// The elements.

// word returns a word of a point of r, or, less often, one that is none or that may be one.
func word(r api.Rel, next func() uint64) uint64 {
	point := func() uint64 {
		var w uint64
		n := points(r)
		if n == 0 {
			return 0
		}
		i := int(next() % uint64(n))
		for j := range n {
			if has(r, j, i) {
				w += 1 << j
			}
		}
		return w
	}
	switch next() % 12 {
	case 0:
		return next()
	case 1:
		return point() | point()
	case 2:
		return point() & point()
	case 3:
		return 1 << (next() % 64)
	case 4:
		return 0
	case 5:
		return math.MaxUint64
	}
	return point()
}

// drawn returns an element, or something like one, of a shape.
func drawn(s api.Shape, next func() uint64) api.Elem {
	var e api.Elem
	for i := range e {
		if i < len(s.Factors) {
			e[i] = word(s.Factors[i].Rel, next)
		} else if next()%4 == 0 {
			e[i] = next()
		}
	}
	return e
}

// P17.1: Of.

// drawnCode returns code that is well-formed, unless it is cut or marred.
func drawnCode(s api.Shape, next func() uint64) []api.Ins {
	var l []api.Ins
	values := 0
	for range next() % 12 {
		switch next() % 4 {
		case 0:
			l = append(l, api.Ins{Op: api.PushVar, N: int(next() % 4)})
			values++
		case 1:
			l = append(l, api.Ins{Op: api.PushConst, Const: drawn(s, next)})
			values++
		default:
			if values > 0 {
				n := 1 + int(next()%uint64(values))
				l = append(l, api.Ins{Op: api.DoJoin + int(next()%2), N: n})
				values -= n - 1
			}
		}
	}
	if values > 0 && next()%8 > 0 {
		l = append(l, api.Ins{Op: api.DoJoin, N: values})
	}
	if len(l) > 0 && next()%16 == 0 {
		l[next()%uint64(len(l))] = api.Ins{Op: int(next()%7) - 1, N: int(next()%5) - 1}
	}
	return l
}

// wantJoin fails unless Join is shape.Join.
func wantJoin(t *testing.T, o tally.Ops, s api.Shape, a, b api.Elem) {
	t.Helper()
	if got, want := o.Join(a, b), shape.Join(s, a, b); got != want {
		t.Fatalf("%d factors, Tuple %v: the join of %x and %x is %x and not %x", len(s.Factors), s.Tuple, a, b, got, want)
	}
}

func TestOf(t *testing.T) {
	for _, example := range []struct {
		s       api.Shape
		a, b, c api.Elem
	}{
		{single(chain(4)), elem(1), elem(7), elem(7)},
		{single(power(3)), elem(1), elem(6), elem(7)},
		{single(grid(ladder(2))), elem(0x1), elem(0x100), elem(0x101)},
		{single(table(flat(5))), elem(3), elem(5), elem(31)},
		{single(table(flat(5))), elem(3), elem(3), elem(3)},
		{single(table(flat(5))), elem(1), elem(9), elem(9)},
		{single(table(flat(5))), elem(2), elem(5), elem(7)}, // 2 is no point's word
		{single(table(pentagon())), elem(3), elem(9), elem(31)},
		{single(table(pentagon())), elem(3), elem(7), elem(7)},
		{single(table(sets(2))), elem(3), elem(5), elem(15)},
		{tuple(power(2), table(flat(5)), power(2)), elem(1, 3, 2, 4), elem(2, 5, 2, 8), elem(3, 31, 2, 12)},
	} {
		o := tally.Of(example.s)
		if c := o.Join(example.a, example.b); c != example.c {
			t.Errorf("the join of %x and %x is %x and not %x", example.a, example.b, c, example.c)
		}
		code := []api.Ins{{Op: api.PushVar, N: 1}, {Op: api.PushConst, Const: example.b}, {Op: api.DoJoin, N: 2}}
		if c, is := o.Eval(code, []api.Elem{{}, example.a}); c != example.c || !is {
			t.Errorf("the value of the join of %x and %x is %x, %v and not %x", example.a, example.b, c, is, example.c)
		}
		if c, is := o.Eval(code, []api.Elem{example.a}); c != (api.Elem{}) || is {
			t.Errorf("without a value: %x, %v", c, is)
		}
		if !o.Leq(example.a, example.c) || o.Leq(example.c, example.a) != (example.a == example.c) {
			t.Errorf("%x and %x have another order", example.a, example.c)
		}
	}
}

func TestJoinIsThatOfTheShape(t *testing.T) {
	next := mixed()
	for _, s := range append(valid(), wrong()...) {
		o := tally.Of(s)
		for range 60 {
			wantJoin(t, o, s, drawn(s, next), drawn(s, next))
		}
	}
}

func TestJoinOfAllWordsOfSmallTables(t *testing.T) {
	for _, r := range append(lattices(), others()...) {
		if n := points(r); n <= 5 {
			s := single(table(r))
			o := tally.Of(s)
			for a := range uint64(2 << n) {
				for b := range uint64(2 << n) {
					wantJoin(t, o, s, elem(a, a), elem(b, 0))
				}
			}
		}
	}
}

func TestJoinOfAllPointsOfLargeTables(t *testing.T) {
	for _, r := range []api.Rel{flat(64), turned(sets(6)), ladder(64)} {
		s := single(table(r))
		o := tally.Of(s)
		for i := range 64 {
			for j := i % 5; j < 64; j += 5 {
				a, b := uint64(0), uint64(0)
				for k := range 64 {
					a += r.Up[k] >> i & 1 << k
					b += r.Up[k] >> j & 1 << k
				}
				wantJoin(t, o, s, elem(a), elem(b))
			}
		}
	}
}

func TestEvalIsThatOfTheCode(t *testing.T) {
	next := mixed()
	values := 0
	for _, s := range append(valid(), wrong()...) {
		o := tally.Of(s)
		for range 30 {
			l := drawnCode(s, next)
			var v []api.Elem
			for range next() % 6 {
				v = append(v, drawn(s, next))
			}
			got, gotIs := o.Eval(l, v)
			want, wantIs := code.Eval(s, l, v)
			if got != want || gotIs != wantIs {
				t.Fatalf("%v with %x is %x, %v and not %x, %v", l, v, got, gotIs, want, wantIs)
			}
			if wantIs {
				values++
			}
		}
	}
	if values < 1000 {
		t.Error("too few values", values)
	}
}

func TestLeqIsThatOfElements(t *testing.T) {
	next := mixed()
	for _, s := range []api.Shape{{}, single(table(flat(5))), tuple(slices.Repeat([]api.Factor{power(64)}, 8)...)} {
		o := tally.Of(s)
		for i := range 8 {
			var low, high api.Elem
			for k := range high {
				high[k] = next()
				low[k] = high[k] & next()
			}
			if !o.Leq(low, high) || !o.Leq(low, low) {
				t.Errorf("%x is not below %x", low, high)
			}
			low[i] = high[i] ^ 1<<(next()%64)
			if o.Leq(low, high) != shape.Leq(low, high) || o.Leq(high, low) != shape.Leq(high, low) {
				t.Errorf("%x and %x have another order", low, high)
			}
		}
	}
}

// The rule for arguments: none is modified or retained.

func TestOperationsDoNotFollowTheirShape(t *testing.T) {
	next := mixed()
	for _, s := range append(valid(), wrong()...) {
		given, first := copied(s), copied(s)
		o, p := tally.Of(given), tally.Of(first)
		a, b := drawn(s, next), drawn(s, next)
		wantJoin(t, p, s, a, b)
		for _, l := range [][]api.Factor{given.Factors, first.Factors} {
			for i := range l {
				for k := range l[i].Names {
					l[i].Names[k] = "other"
				}
				l[i] = table(turned(pentagon()))
			}
		}
		push := []api.Ins{{Op: api.PushConst, Const: a}, {Op: api.PushConst, Const: b}, {Op: api.DoJoin, N: 2}}
		for _, ops := range []tally.Ops{o, p} {
			wantJoin(t, ops, s, a, b)
			if e, is := ops.Eval(push, nil); e != shape.Join(s, b, a) || !is {
				t.Fatal("Eval follows the shape")
			}
		}
	}
}

func TestNothingGivenIsModified(t *testing.T) {
	next := mixed()
	for _, s := range append(valid(), wrong()...) {
		// Memory beyond the length is not touched, either.
		s = copied(s)
		s.Factors = append(s.Factors, power(3), table(flat(4)))
		beyond := copied(s)
		s.Factors = s.Factors[:len(s.Factors)-2]
		l, v := drawnCode(s, next), []api.Elem{drawn(s, next), drawn(s, next), drawn(s, next), drawn(s, next)}
		wasL, wasV := slices.Clone(l), slices.Clone(v)
		o := tally.New().Wrap(tally.Of(s))
		o.Join(v[0], v[1])
		o.Leq(v[0], v[1])
		o.Eval(l, v)
		if !reflect.DeepEqual(s.Factors[:len(s.Factors)+2], beyond.Factors) || !slices.Equal(l, wasL) || !slices.Equal(v, wasV) {
			t.Fatal("an argument was modified")
		}
	}
}

// The rule for the joins of tables: they are computed once, when the first one is needed.

func TestJoinsOfTablesAreComputedOnce(t *testing.T) {
	s := tuple(slices.Repeat([]api.Factor{table(flat(64))}, 8)...)
	var a, b api.Elem
	for i := range a {
		a[i], b[i] = 3, 5
	}
	o := tally.Of(s)
	// The first call is not measured.
	if n := testing.AllocsPerRun(100, func() { o.Join(a, b) }); n != 0 {
		t.Error("memory is taken at each call", n)
	}
	if n := testing.AllocsPerRun(10, func() { tally.Of(s) }); n > 32 {
		t.Error("joins are computed before one is needed", n)
	}
}

func TestJoinsFromSeveralGoroutines(t *testing.T) {
	s := tuple(table(flat(64)), power(3), table(pentagon()))
	m := tally.New()
	o := m.Wrap(tally.Of(s))
	var group sync.WaitGroup
	wrongs := make([]int, 8)
	for g := range wrongs {
		group.Go(func() {
			for i := range 500 {
				a, b := elem(1|2<<(i%62), 1, 3), elem(1|2<<((i+g)%62), 2, 9)
				if want := elem(math.MaxUint64, 3, 31); a[0] != b[0] && o.Join(a, b) != want || a[0] == b[0] && o.Join(a, b)[0] != a[0] {
					wrongs[g]++
				}
				o.Leq(a, b)
				o.Leq(b, a)
				o.Eval(nil, nil)
			}
		})
	}
	group.Wait()
	if slices.Max(wrongs) > 0 {
		t.Error("other joins", wrongs)
	}
	if c := m.Read(); c != (tally.Count{Evals: 4000, Leqs: 8000, Joins: 4000}) {
		t.Error("other counts", c)
	}
}

// P17.2: New and Wrap.

// wantCount fails unless the meter has counted this.
func wantCount(t *testing.T, m *tally.Meter, evals, leqs, joins int) {
	t.Helper()
	if got, want := m.Read(), (tally.Count{Evals: evals, Leqs: leqs, Joins: joins}); got != want {
		t.Fatalf("counted %v and not %v", got, want)
	}
}

func TestNewHasCountedNothing(t *testing.T) {
	m := tally.New()
	wantCount(t, m, 0, 0, 0)
	o := m.Wrap(tally.Of(single(table(flat(5)))))
	wantCount(t, m, 0, 0, 0)
	o.Join(elem(3), elem(5))
	wantCount(t, m, 0, 0, 1)
	wantCount(t, tally.New(), 0, 0, 0)
}

func TestExample1(t *testing.T) {
	m := tally.New()
	o := m.Wrap(tally.Of(single(power(2))))
	o.Leq(elem(1), elem(3))
	o.Leq(elem(3), elem(1))
	o.Join(elem(1), elem(2))
	wantCount(t, m, 0, 2, 1)
}

func TestEachCallCountsOne(t *testing.T) {
	for _, s := range append(valid(), wrong()...) {
		m := tally.New()
		o := m.Wrap(tally.Of(s))
		o.Eval([]api.Ins{{Op: api.PushVar}, {Op: api.PushVar}, {Op: api.DoJoin, N: 2}}, []api.Elem{elem(1)})
		wantCount(t, m, 1, 0, 0)
		o.Eval(nil, nil)
		wantCount(t, m, 2, 0, 0)
		o.Leq(elem(1), elem(2))
		wantCount(t, m, 2, 1, 0)
		o.Join(elem(1), elem(2))
		o.Join(elem(1), elem(2))
		o.Join(elem(1), elem(2))
		wantCount(t, m, 2, 1, 3)
	}
}

// odd returns operations whose results are like no lattice's, and which remember what they are given in the list.
func odd(given *[]any) tally.Ops {
	return tally.Ops{
		Eval: func(l []api.Ins, v []api.Elem) (api.Elem, bool) {
			*given = append(*given, slices.Clone(l), slices.Clone(v))
			return elem(7, uint64(len(l)), uint64(len(v))), len(v) == 2
		},
		Leq: func(a, b api.Elem) bool {
			*given = append(*given, a, b)
			return a != b
		},
		Join: func(a, b api.Elem) api.Elem {
			*given = append(*given, a, b)
			return elem(a[7], b[0], 9)
		},
	}
}

// checkOdd fails unless o has the results of odd, and gives on what it is given.
func checkOdd(t *testing.T, o tally.Ops, given *[]any) {
	t.Helper()
	*given = nil
	a, b := elem(1, 2, 3, 4, 5, 6, 7, 8), elem(9, 8, 7)
	l := []api.Ins{{Op: 99, N: -1, Const: a}}
	if e, is := o.Eval(l, []api.Elem{b, a}); e != elem(7, 1, 2) || !is {
		t.Fatal("Eval", e, is)
	}
	// The element beside false is given on, too.
	if e, is := o.Eval(nil, []api.Elem{b}); e != elem(7, 0, 1) || is {
		t.Fatal("Eval beside false", e, is)
	}
	if !o.Leq(a, b) || o.Leq(b, b) {
		t.Fatal("Leq")
	}
	if e := o.Join(a, b); e != elem(8, 9, 9) {
		t.Fatal("Join", e)
	}
	want := []any{l, []api.Elem{b, a}, []api.Ins(nil), []api.Elem{b}, a, b, b, b, a, b}
	if !reflect.DeepEqual(*given, want) {
		t.Fatalf("was given %v and not %v", *given, want)
	}
}

func TestWrapHasTheResultsOfWhatItWraps(t *testing.T) {
	var given []any
	m := tally.New()
	checkOdd(t, m.Wrap(odd(&given)), &given)
	wantCount(t, m, 2, 2, 1)
	for _, none := range []*tally.Meter{nil, {}} {
		checkOdd(t, none.Wrap(odd(&given)), &given)
		wantCount(t, none, 0, 0, 0)
	}
}

func TestWrappingDoesNotFollowWhatIsWrapped(t *testing.T) {
	var given []any
	o := odd(&given)
	m := tally.New()
	w := m.Wrap(o)
	o.Eval, o.Leq, o.Join = nil, nil, nil
	checkOdd(t, w, &given)
	o = odd(&given)
	m.Wrap(o)
	checkOdd(t, o, &given)
	wantCount(t, m, 2, 2, 1)
}

func TestACallCountsFirst(t *testing.T) {
	m := tally.New()
	var seen []tally.Count
	see := func() { seen = append(seen, m.Read()) }
	o := m.Wrap(tally.Ops{
		Eval: func([]api.Ins, []api.Elem) (api.Elem, bool) { see(); return api.Elem{}, true },
		Leq:  func(a, b api.Elem) bool { see(); return true },
		Join: func(a, b api.Elem) api.Elem { see(); return a },
	})
	o.Leq(elem(), elem())
	o.Eval(nil, nil)
	o.Join(elem(), elem())
	o.Leq(elem(), elem())
	if want := []tally.Count{{Leqs: 1}, {Evals: 1, Leqs: 1}, {Evals: 1, Leqs: 1, Joins: 1}, {Evals: 1, Leqs: 2, Joins: 1}}; !slices.Equal(seen, want) {
		t.Errorf("%v and not %v", seen, want)
	}
}

func TestFunctionsThatAreNil(t *testing.T) {
	for missing := range 8 {
		for _, m := range []*tally.Meter{tally.New(), nil, {}} {
			var given []any
			o := odd(&given)
			if missing&1 != 0 {
				o.Eval = nil
			}
			if missing&2 != 0 {
				o.Leq = nil
			}
			if missing&4 != 0 {
				o.Join = nil
			}
			w := m.Wrap(o)
			if w.Eval == nil || w.Leq == nil || w.Join == nil {
				t.Fatal("a function is nil")
			}
			a, b := elem(1, 2, 3, 4, 5, 6, 7, 8), elem(9)
			e, is := w.Eval([]api.Ins{{Op: api.PushConst, Const: a}}, []api.Elem{a, b})
			if missing&1 != 0 && (e != elem() || is) || missing&1 == 0 && (e != elem(7, 1, 2) || !is) {
				t.Error("Eval", missing, e, is)
			}
			if w.Leq(a, b) != (missing&2 == 0) || w.Leq(a, a) {
				t.Error("Leq", missing)
			}
			if e := w.Join(a, b); missing&4 != 0 && e != elem() || missing&4 == 0 && e != elem(8, 9, 9) {
				t.Error("Join", missing, e)
			}
			if m != nil && *m != (tally.Meter{}) {
				wantCount(t, m, 1, 2, 1)
			} else {
				wantCount(t, m, 0, 0, 0)
			}
		}
	}
}

func TestAMeterMayWrapAnyNumberOfOperations(t *testing.T) {
	m, other := tally.New(), tally.New()
	table := m.Wrap(tally.Of(single(table(flat(5)))))
	power := m.Wrap(tally.Of(single(power(5))))
	both := other.Wrap(power)
	none := (*tally.Meter)(nil).Wrap(power)
	if e := table.Join(elem(3), elem(5)); e != elem(31) {
		t.Error("table", e)
	}
	if e := power.Join(elem(3), elem(5)); e != elem(7) {
		t.Error("power", e)
	}
	wantCount(t, m, 0, 0, 2)
	wantCount(t, other, 0, 0, 0)
	both.Leq(elem(3), elem(5))
	wantCount(t, m, 0, 1, 2)
	wantCount(t, other, 0, 1, 0)
	// What was wrapped by m goes on counting in m, also through a meter that counts none.
	none.Leq(elem(3), elem(5))
	wantCount(t, m, 0, 2, 2)
	wantCount(t, other, 0, 1, 0)
}

func TestEachWrappingCounts(t *testing.T) {
	m := tally.New()
	o := tally.Of(single(table(flat(5))))
	for n := range 5 {
		m.Clear()
		if e := o.Join(elem(3), elem(5)); e != elem(31) {
			t.Error(n, e)
		}
		o.Eval(nil, nil)
		o.Leq(elem(1), elem(3))
		o.Leq(elem(3), elem(1))
		wantCount(t, m, n, 2*n, n)
		o = m.Wrap(o)
	}
}

func TestManyWrappings(t *testing.T) {
	m := tally.New()
	o := tally.Of(single(table(flat(5))))
	for range deepest {
		o = m.Wrap(o)
	}
	if e := o.Join(elem(3), elem(5)); e != elem(31) {
		t.Error(e)
	}
	if e, is := o.Eval([]api.Ins{{Op: api.PushVar}}, []api.Elem{elem(9)}); e != elem(9) || !is {
		t.Error(e, is)
	}
	if !o.Leq(elem(1), elem(3)) {
		t.Error("another order")
	}
	wantCount(t, m, deepest, deepest, deepest)
}

// P17.3: Read and Clear.

func TestReadAndClear(t *testing.T) {
	m, other := tally.New(), tally.New()
	o := m.Wrap(tally.Of(single(chain(3))))
	p := other.Wrap(o)
	for range 3 {
		p.Leq(elem(1), elem(3))
		p.Join(elem(1), elem(3))
		p.Join(elem(1), elem(3))
		p.Eval(nil, nil)
		for range 2 {
			wantCount(t, m, 1, 1, 2)
		}
		m.Clear()
		wantCount(t, m, 0, 0, 0)
		m.Clear()
		wantCount(t, m, 0, 0, 0)
	}
	wantCount(t, other, 3, 3, 6)
	// What was wrapped before goes on counting.
	o.Eval(nil, nil)
	wantCount(t, m, 1, 0, 0)
}

func TestReadReturnsAValue(t *testing.T) {
	m := tally.New()
	o := m.Wrap(tally.Ops{})
	o.Leq(elem(), elem())
	c := m.Read()
	o.Leq(elem(), elem())
	if c != (tally.Count{Leqs: 1}) {
		t.Error("an earlier count changed", c)
	}
	c.Leqs = 100
	wantCount(t, m, 0, 2, 0)
}

func TestMetersThatCountNone(t *testing.T) {
	var zero tally.Meter
	for _, m := range []*tally.Meter{nil, &zero, {}} {
		wantCount(t, m, 0, 0, 0)
		m.Clear()
		o := m.Wrap(m.Wrap(tally.Of(single(table(flat(5))))))
		if e := o.Join(elem(3), elem(5)); e != elem(31) {
			t.Error(e)
		}
		o.Leq(elem(), elem())
		o.Eval(nil, nil)
		wantCount(t, m, 0, 0, 0)
		m.Clear()
		wantCount(t, m, 0, 0, 0)
	}
	if zero != (tally.Meter{}) {
		t.Error("the meter is not zero any more")
	}
}

// P17.4: laws.

func TestLaws(t *testing.T) {
	next := mixed()
	for _, s := range append(valid(), wrong()...) {
		plain := tally.Of(s)
		meters := []*tally.Meter{tally.New(), tally.New(), nil, {}}
		counted := make([]tally.Count, len(meters))
		// By each operation the meters count as often as they have wrapped it.
		wrapped := []tally.Ops{plain}
		times := [][]int{make([]int, len(meters))}
		for range 12 {
			from, by := next()%uint64(len(wrapped)), next()%uint64(len(meters))
			wrapped = append(wrapped, meters[by].Wrap(wrapped[from]))
			times = append(times, slices.Clone(times[from]))
			if by < 2 {
				times[len(times)-1][by]++
			}
		}
		for range 40 {
			o := next() % uint64(len(wrapped))
			kind := next() % 4
			a, b := drawn(s, next), drawn(s, next)
			same := true
			switch kind {
			case 0:
				l, v := drawnCode(s, next), []api.Elem{a, b}
				e, is := wrapped[o].Eval(l, v)
				want, wantIs := plain.Eval(l, v)
				same = e == want && is == wantIs
			case 1:
				same = wrapped[o].Leq(a, b) == plain.Leq(a, b)
			case 2:
				same = wrapped[o].Join(a, b) == plain.Join(a, b)
			case 3:
				cleared := next() % uint64(len(meters))
				meters[cleared].Clear()
				counted[cleared] = tally.Count{}
			}
			if !same {
				t.Fatal("another result of the kind", kind)
			}
			for i, m := range meters {
				n := times[o][i]
				switch kind {
				case 0:
					counted[i].Evals += n
				case 1:
					counted[i].Leqs += n
				case 2:
					counted[i].Joins += n
				}
				wantCount(t, m, counted[i].Evals, counted[i].Leqs, counted[i].Joins)
			}
		}
	}
}
