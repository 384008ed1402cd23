package assign_test

import (
	"math"
	"reflect"
	"slices"
	"strconv"
	"strings"
	"testing"

	"clearance/api"
	"clearance/assign"
	"clearance/shape"
	"clearance/spell"
)

// elem returns the element with these words.
func elem(words ...uint64) api.Elem {
	var e api.Elem
	copy(e[:], words)
	return e
}

// odd are numbers that are neither those of a kind nor those of a lattice.
var odd = []int{-1, math.MinInt, math.MinInt32, math.MaxInt, math.MaxInt32, 1 << 8, 1 << 16, 1<<32 + 1, -1 << 32}

// The lattices.

// made returns the relation of n points in which exactly those are related for which below holds.
func made(n int, below func(i, j int) bool) api.Rel {
	r := api.Rel{N: n}
	for i := range n {
		for j := range n {
			if below(i, j) {
				r.Up[i] += 1 << j
			}
		}
	}
	return r
}

// raised returns the order of n points in which all but the last and the first one are between these, of which the last one is the bottom.
func raised(n int) api.Rel {
	return made(n, func(i, j int) bool { return i == j || i == n-1 || j == 0 })
}

// ladder returns the order of n points in which every two are related.
func ladder(n int) api.Rel {
	return made(n, func(i, j int) bool { return i <= j })
}

// names returns n different names.
func names(n int) []string {
	var l []string
	for i := range n {
		l = append(l, "n"+strconv.Itoa(i))
	}
	return l
}

func chain(names ...string) api.Factor { return api.Factor{Kind: api.Chain, Names: names} }
func power(names ...string) api.Factor { return api.Factor{Kind: api.Power, Names: names} }
func grid(n int) api.Factor {
	return api.Factor{Kind: api.Grid, Names: names(n), Rel: ladder(n)}
}
func table(n int) api.Factor {
	return api.Factor{Kind: api.Table, Names: names(n), Rel: raised(n)}
}

// single returns the shape of f.
func single(f api.Factor) api.Shape { return api.Shape{Factors: []api.Factor{f}} }

// tuple returns the Tuple of these factors.
func tuple(l ...api.Factor) api.Shape { return api.Shape{Tuple: true, Factors: l} }

// lattices returns lattices of all kinds, with few elements.
func lattices() []api.Shape {
	return []api.Shape{
		single(chain("only")),
		single(chain("lo", "mid", "hi")),
		single(power("a", "b")),
		single(grid(2)),
		single(table(4)),
		tuple(table(2)),
		tuple(chain("lo", "hi"), table(4)),
		tuple(grid(2), power("a"), chain("lo", "hi")),
	}
}

// greatest returns lattices with as many factors, names and principals as there may be.
func greatest() []api.Shape {
	return []api.Shape{
		single(chain(names(64)...)),
		single(power(names(64)...)),
		single(grid(8)),
		single(table(64)),
		tuple(slices.Repeat([]api.Factor{table(64)}, 8)...),
		tuple(chain(names(64)...), power(names(64)...), grid(8), table(64), chain("lo", "hi"), power("a"), grid(1), table(1)),
	}
}

// wrong returns shapes that are no lattices.
func wrong() []api.Shape {
	doubled := table(4)
	doubled.Names[1] = doubled.Names[2]
	unordered := table(4)
	unordered.Rel = made(4, func(i, j int) bool { return i == j })
	return []api.Shape{{}, {Tuple: true}, single(api.Factor{}), single(chain()), single(chain("A")), single(chain(names(65)...)), single(power("a", "a")), single(doubled), single(unordered),
		{Factors: []api.Factor{chain("lo"), chain("hi")}},
		tuple(slices.Repeat([]api.Factor{chain("lo", "hi")}, 9)...)}
}

// elements returns the elements of s among those whose words are made of few bits.
func elements(s api.Shape) []api.Elem {
	var l []api.Elem
	for _, e := range tries() {
		if shape.Fits(s, e) {
			l = append(l, e)
		}
	}
	return l
}

// tries returns elements whose first words are small, and a few others.
func tries() []api.Elem {
	l := []api.Elem{elem(0, 0, 0, 1), elem(0, 0, 0, 0, 0, 0, 0, 1), elem(1 << 63), elem(math.MaxUint64), elem(1, 1<<63)}
	for i := range uint64(16) {
		for j := range uint64(16) {
			l = append(l, elem(i, j))
		}
		for j := range uint64(6) {
			l = append(l, elem(i, j/3, j%3+1))
		}
	}
	return l
}

// The scopes.

// scope returns the scope with these lattices that has, for each of them, a label and a row: x0, r0, x1, r1, ..
func scope(l ...api.Shape) api.Scope {
	var s api.Scope
	for i, f := range l {
		n := strconv.Itoa(i)
		s.Lats = append(s.Lats, api.Lat{Name: "k" + n, Shape: f})
		s.Vars = append(s.Vars, api.Var{Name: "x" + n, Kind: api.Label, Lat: i}, api.Var{Name: "r" + n, Kind: api.Row, Lat: i})
	}
	return s
}

// oneVar returns the scope with the lattice lo, mid, hi twice, a table, and a variable of this kind and lattice.
func oneVar(kind, lat int) api.Scope {
	s := scope(single(chain("lo", "mid", "hi")), single(chain("lo", "mid", "hi")), single(table(4)))
	s.Vars = []api.Var{{Name: "v", Kind: kind, Lat: lat}}
	return s
}

// value returns a value with the name n.
func value(n string, words ...uint64) api.Value {
	return api.Value{Name: n, Elem: elem(words...)}
}

// values returns lists of fields: of up to size fields with these names and elements.
func values(size int, names []string, elems []api.Elem) [][]api.Value {
	l := [][]api.Value{nil}
	for from := 0; size > 0; size-- {
		to := len(l)
		for _, row := range l[from:to] {
			for _, n := range names {
				for _, e := range elems {
					l = append(l, append(slices.Clone(row), api.Value{Name: n, Elem: e}))
				}
			}
		}
		from = to
	}
	return l
}

// What the promises say, field by field.

// modelRight is P18.1 for Right.
func modelRight(s api.Scope, a api.Assign) bool {
	right := len(a.Labels) == len(s.Vars) && len(a.Rows) == len(s.Vars)
	for i, v := range s.Vars {
		if !right || v.Lat < 0 || v.Lat >= len(s.Lats) {
			return false
		}
		f := s.Lats[v.Lat].Shape
		if v.Kind == api.Label {
			right = shape.Fits(f, a.Labels[i]) && len(a.Rows[i]) == 0
		} else if v.Kind == api.Row {
			right = a.Labels[i] == elem()
			for j, x := range a.Rows[i] {
				right = right && isName(x.Name) && shape.Fits(f, x.Elem)
				right = right && (j == 0 || a.Rows[i][j-1].Name < x.Name)
			}
		} else {
			return false
		}
	}
	return right
}

// isName reports whether s is a name.
func isName(s string) bool {
	const letters = "abcdefghijklmnopqrstuvwxyz"
	return s != "" && len(s) <= 16 && strings.Contains(letters, s[:1]) && strings.Trim(s, letters+"0123456789_") == ""
}

// modelGet is P18.1 for Get.
func modelGet(l []api.Value, field string) (api.Elem, bool) {
	for _, v := range l {
		if v.Name == field {
			return v.Elem, true
		}
	}
	return elem(), false
}

// modelWith is P18.1 for With.
func modelWith(l []api.Value, field string, e api.Elem) []api.Value {
	_, has := modelGet(l, field)
	var r []api.Value
	done := false
	for _, v := range l {
		switch {
		case !done && has && v.Name == field:
			r, done = append(r, api.Value{Name: field, Elem: e}), true
		case !done && !has && v.Name > field:
			r, done = append(r, api.Value{Name: field, Elem: e}, v), true
		default:
			r = append(r, v)
		}
	}
	if !done {
		r = append(r, api.Value{Name: field, Elem: e})
	}
	return r
}

// modelLeq is P18.3 for Leq.
func modelLeq(a, b api.Assign) bool {
	for i, x := range a.Labels {
		var y api.Elem
		if i < len(b.Labels) {
			y = b.Labels[i]
		}
		if !shape.Leq(x, y) {
			return false
		}
	}
	for i, row := range a.Rows {
		var other []api.Value
		if i < len(b.Rows) {
			other = b.Rows[i]
		}
		for _, x := range row {
			if y, is := modelGet(other, x.Name); !is || !shape.Leq(x.Elem, y) {
				return false
			}
		}
	}
	return true
}

// modelMeet is P18.3 for Meet.
func modelMeet(a, b api.Assign) api.Assign {
	var m api.Assign
	for i := 0; i < len(a.Labels) && i < len(b.Labels); i++ {
		m.Labels = append(m.Labels, shape.Meet(a.Labels[i], b.Labels[i]))
	}
	for i := 0; i < len(a.Rows) && i < len(b.Rows); i++ {
		var row []api.Value
		for _, x := range a.Rows[i] {
			if y, is := modelGet(b.Rows[i], x.Name); is {
				row = append(row, api.Value{Name: x.Name, Elem: shape.Meet(x.Elem, y)})
			}
		}
		m.Rows = append(m.Rows, row)
	}
	return m
}

// modelText is P18.4.
func modelText(s api.Scope, a api.Assign) string {
	text := ""
	if !modelRight(s, a) {
		return text
	}
	for i, v := range s.Vars {
		f := s.Lats[v.Lat].Shape
		if i > 0 {
			text += " "
		}
		text += v.Name + "="
		if v.Kind == api.Label {
			text += spell.Text(f, a.Labels[i])
			continue
		}
		text += "["
		for j, x := range a.Rows[i] {
			if j > 0 {
				text += ","
			}
			text += x.Name + "=" + spell.Text(f, x.Elem)
		}
		text += "]"
	}
	return text
}

// alike reports whether a and b are the same, nil lists being empty ones.
func alike(a, b api.Assign) bool {
	return reflect.DeepEqual(whole(a), whole(b))
}

// whole returns a copy of a with empty lists instead of nil ones.
func whole(a api.Assign) api.Assign {
	w := api.Assign{Labels: append([]api.Elem{}, a.Labels...), Rows: [][]api.Value{}}
	for _, row := range a.Rows {
		w.Rows = append(w.Rows, append([]api.Value{}, row...))
	}
	return w
}

// The assignments.

// mixed returns a function that returns numbers, the same ones in each test, in an order that is fixed but mixed.
func mixed() func(n int) int {
	x := uint64(88172645463325252)
	return func(n int) int {
		x ^= x << 13
		x ^= x >> 7
		x ^= x << 17
		return int(x % uint64(n))
	}
}

// valid returns n valid assignments of s, the first of which is the least one.
func valid(s api.Scope, n int) []api.Assign {
	next := mixed()
	var elems [][]api.Elem
	for _, l := range s.Lats {
		elems = append(elems, append(elements(l.Shape), shape.Bottom(l.Shape), shape.Top(l.Shape)))
	}
	l := []api.Assign{assign.Least(s)}
	for len(l) < n {
		a := api.Assign{Labels: make([]api.Elem, len(s.Vars)), Rows: make([][]api.Value, len(s.Vars))}
		for i, v := range s.Vars {
			some := elems[v.Lat]
			if v.Kind == api.Label {
				a.Labels[i] = some[next(len(some))]
				continue
			}
			for _, n := range []string{"a", "a0", "a_", "aa", "b", "z23456789012345z"} {
				if next(2) == 0 {
					a.Rows[i] = append(a.Rows[i], api.Value{Name: n, Elem: some[next(len(some))]})
				}
			}
		}
		l = append(l, a)
	}
	return l
}

// anyhow returns assignments of few variables that need not be valid, all of which differ.
func anyhow() []api.Assign {
	rows := values(2, []string{"a", "B", ""}, []api.Elem{elem(), elem(2, 1)})
	l := []api.Assign{
		{}, {Labels: []api.Elem{{}}}, {Labels: []api.Elem{{}, {}}}, {Rows: [][]api.Value{nil, nil}},
		{Labels: []api.Elem{elem(1)}}, {Labels: []api.Elem{elem(3, 1), elem(2)}}, {Labels: []api.Elem{elem(0, 0, 0, 0, 0, 0, 0, 1<<63)}}, {Labels: []api.Elem{elem(0, 1), {}, elem(math.MaxUint64)}},
		{Labels: []api.Elem{elem(1)}, Rows: [][]api.Value{{value("a", 1)}}},
		{Labels: []api.Elem{elem(3)}, Rows: [][]api.Value{{value("a", 3)}, {value("a", 1)}}},
		{Labels: []api.Elem{elem(3), elem(3)}, Rows: [][]api.Value{{value("c", 1), value("a", 3), value("b", 2), value("a", 4)}}},
		{Labels: []api.Elem{elem(3), {}}, Rows: [][]api.Value{{value("b", 3), value("d", 1), value("a", 2), value("c", 7)}, nil}},
	}
	for _, row := range rows {
		l = append(l, api.Assign{Rows: [][]api.Value{row}}, api.Assign{Labels: []api.Elem{{}}, Rows: [][]api.Value{nil, row}})
	}
	return l
}

// P18.1: Right.

func TestRightOne(t *testing.T) {
	rows := append(values(2, []string{"a", "b", "", "B", "a0"}, []api.Elem{{}, elem(1), elem(2)}), []api.Value{value("c"), value("b"), value("d")})
	labels := []api.Elem{{}, elem(1), elem(2), elem(3), elem(4), elem(0, 1), elem(8), elem(15), elem(0, 0, 0, 0, 0, 0, 0, 1)}
	numbers := append([]int{0, 1, 2, 3, 4}, odd...)
	held := 0
	for _, kind := range numbers {
		for _, lat := range numbers {
			s := oneVar(kind, lat)
			for _, e := range labels {
				for _, row := range rows {
					a := api.Assign{Labels: []api.Elem{e}, Rows: [][]api.Value{row}}
					want := modelRight(s, a)
					if assign.Right(s, a) != want {
						t.Fatal(kind, lat, a, want)
					}
					if want {
						held++
					}
				}
			}
		}
	}
	if held < 30 {
		t.Fatal(held)
	}
}

func TestRightMany(t *testing.T) {
	for _, s := range []api.Scope{{}, scope(lattices()...), scope(greatest()[2:4]...), scope(greatest()[5])} {
		for _, a := range valid(s, 10) {
			if !assign.Right(s, a) {
				t.Fatal(a)
			}
			for i := range s.Vars {
				for _, e := range []api.Elem{{}, elem(1), elem(2), elem(3, 2), elem(0, 0, 0, 0, 0, 0, 0, 2), elem(math.MaxUint64)} {
					for _, row := range [][]api.Value{nil, {}, {value("a")}, {value("a", 1)}, {value("b", 1), value("a", 1)}, {value("a", 1), value("a", 1)}, {value("a", 1), value("b", 1), value("C", 1)}} {
						b := whole(a)
						b.Labels[i], b.Rows[i] = e, row
						if assign.Right(s, b) != modelRight(s, b) {
							t.Fatal(i, b)
						}
					}
				}
			}
		}
	}
}

func TestRightElements(t *testing.T) {
	for _, f := range append(append(lattices(), greatest()...), wrong()...) {
		s := api.Scope{Lats: []api.Lat{{Name: "k", Shape: f}}, Vars: []api.Var{{Name: "x", Kind: api.Label}, {Name: "y", Kind: api.Label}, {Name: "r", Kind: api.Row}}}
		some := shape.Bottom(f)
		for _, e := range append(tries(), some, shape.Top(f)) {
			want := shape.Fits(f, e)
			if assign.Right(s, api.Assign{Labels: []api.Elem{some, e, {}}, Rows: make([][]api.Value, 3)}) != want {
				t.Fatal(f, e, want)
			}
			if assign.Right(s, api.Assign{Labels: []api.Elem{some, some, {}}, Rows: [][]api.Value{nil, nil, {{Name: "f", Elem: some}, {Name: "g", Elem: e}}}}) != want {
				t.Fatal(f, e, want)
			}
		}
		// A row without fields has no element that could be wrong.
		s.Vars = s.Vars[2:]
		if !assign.Right(s, api.Assign{Labels: make([]api.Elem, 1), Rows: make([][]api.Value, 1)}) {
			t.Fatal(f)
		}
	}
}

// TestRightLattice has an element of one lattice that is none of another one.
func TestRightLattice(t *testing.T) {
	s := scope(single(chain("lo", "hi")), single(chain("lo", "mid", "hi")), single(table(2)))
	a := assign.Least(s)
	for _, i := range []int{2, 0, 4} {
		b := whole(a)
		b.Labels[2], b.Labels[i] = elem(3), elem(3)
		if want := i != 0; assign.Right(s, b) != want {
			t.Fatal(i)
		}
		b = whole(a)
		b.Rows[3] = []api.Value{value("a", 3)}
		b.Rows[i+1] = []api.Value{value("a", 3)}
		if want := i != 0; assign.Right(s, b) != want {
			t.Fatal(i)
		}
	}
}

func TestRightNames(t *testing.T) {
	s := scope(single(chain("lo", "hi")))
	for n, want := range map[string]bool{"a": true, "z9_": true, strings.Repeat("a", 16): true, strings.Repeat("a", 17): false, "": false, "_": false, "0a": false, "A": false, "a-": false, "a b": false, "\xff": false, "é": false, "a\x00": false} {
		for _, row := range [][]api.Value{{value(n, 1)}, {value(n, 1), value("zz", 1)}} {
			a := api.Assign{Labels: make([]api.Elem, 2), Rows: [][]api.Value{nil, row}}
			if assign.Right(s, a) != want {
				t.Fatal(n, want)
			}
		}
	}
	// The names of lattices and variables do not matter.
	for _, n := range []string{"", "x0", "A", "a\n"} {
		c := scope(single(chain("lo", "hi")))
		c.Vars[1].Name, c.Lats[0].Name = n, n
		if !assign.Right(c, assign.Least(c)) {
			t.Fatal(n)
		}
	}
}

func TestRightLengths(t *testing.T) {
	s := scope(single(chain("lo", "hi")))
	for labels := range 5 {
		for rows := range 5 {
			a := api.Assign{Labels: make([]api.Elem, labels), Rows: make([][]api.Value, rows)}
			if assign.Right(s, a) != (labels == 2 && rows == 2) {
				t.Fatal(labels, rows)
			}
			if assign.Right(api.Scope{}, a) != (labels == 0 && rows == 0) {
				t.Fatal(labels, rows)
			}
		}
	}
}

// P18.1: Same.

func TestSame(t *testing.T) {
	l := anyhow()
	for i, a := range l {
		for j, b := range l {
			if assign.Same(a, whole(b)) != (i == j) {
				t.Fatal(a, b)
			}
		}
	}
	for _, s := range []api.Scope{scope(lattices()...), scope(greatest()...)} {
		l := valid(s, 20)
		for _, a := range l {
			for _, b := range l {
				if assign.Same(a, whole(b)) != alike(a, b) {
					t.Fatal(a, b)
				}
			}
		}
	}
}

func TestSameWords(t *testing.T) {
	for i := range api.MaxWidth {
		for bit := range 64 {
			var e api.Elem
			e[i] = 1 << bit
			a := api.Assign{Labels: []api.Elem{{}, e}, Rows: [][]api.Value{nil, {{Name: "f", Elem: e}}}}
			label, row := whole(a), whole(a)
			label.Labels[1] = api.Elem{}
			row.Rows[1][0].Elem = api.Elem{}
			if !assign.Same(a, whole(a)) || assign.Same(a, label) || assign.Same(a, row) {
				t.Fatal(i, bit)
			}
		}
	}
}

// P18.1: Get and With.

// fieldNames are names of fields, not all of which are names (chapter 2).
var fieldNames = []string{"", "B", "a", "a0", "b", "\xff"}

// lists returns lists of fields in any order.
func lists() [][]api.Value {
	l := values(3, fieldNames, []api.Elem{elem(1), elem(0, 2)})
	l = append(l, values(4, []string{"a", "c", "e"}, []api.Elem{elem(3)})...)
	return append(l, []api.Value{value("a"), value("c"), value("e"), value("g"), value("i"), value("k")}, []api.Value{})
}

func TestGet(t *testing.T) {
	for _, l := range lists() {
		for _, n := range append(fieldNames, "c", "d", "e", "k", "l") {
			e, is := assign.Get(l, n)
			if want, has := modelGet(l, n); e != want || is != has {
				t.Fatal(l, n, e, is)
			}
		}
	}
	if e, is := assign.Get([]api.Value{value("a", 1), value("a", 2)}, "a"); e != elem(1) || !is {
		t.Fatal(e, is)
	}
	if e, is := assign.Get([]api.Value{value("a"), value("b", 2)}, "a"); e != elem() || !is {
		t.Fatal(e, is)
	}
}

func TestWith(t *testing.T) {
	for _, l := range lists() {
		for _, n := range append(fieldNames, "b0", "c", "d", "e", "f", "k", "l") {
			e := elem(7, 0, 0, 0, 0, 0, 0, 9)
			before := slices.Clone(l)
			r := assign.With(l, n, e)
			if want := modelWith(l, n, e); !slices.Equal(r, want) {
				t.Fatal(l, n, r, want)
			}
			if !slices.Equal(l, before) {
				t.Fatal(l, n)
			}
			if got, is := assign.Get(r, n); got != e || !is {
				t.Fatal(r, n)
			}
		}
	}
}

func TestWithCases(t *testing.T) {
	a, c, e := value("a", 1), value("c", 1), value("e", 1)
	for _, x := range []struct {
		l    []api.Value
		name string
		want []api.Value
	}{
		{nil, "b", []api.Value{value("b", 2)}},
		{[]api.Value{a, c, e}, "", []api.Value{value("", 2), a, c, e}},
		{[]api.Value{a, c, e}, "b", []api.Value{a, value("b", 2), c, e}},
		{[]api.Value{a, c, e}, "d", []api.Value{a, c, value("d", 2), e}},
		{[]api.Value{a, c, e}, "f", []api.Value{a, c, e, value("f", 2)}},
		{[]api.Value{a, c, e}, "a", []api.Value{value("a", 2), c, e}},
		{[]api.Value{a, c, e}, "e", []api.Value{a, c, value("e", 2)}},
		{[]api.Value{e, c, a}, "b", []api.Value{value("b", 2), e, c, a}},
		{[]api.Value{e, c, a}, "c", []api.Value{e, value("c", 2), a}},
		{[]api.Value{c, a, c, a}, "a", []api.Value{c, value("a", 2), c, a}},
		{[]api.Value{a, e, a, e}, "d", []api.Value{a, value("d", 2), e, a, e}},
		{[]api.Value{e, a}, "a", []api.Value{e, value("a", 2)}},
	} {
		if r := assign.With(x.l, x.name, elem(2)); !slices.Equal(r, x.want) {
			t.Fatal(x.l, x.name, r)
		}
	}
}

// TestWithOrder adds fields in any order: the result is in order.
func TestWithOrder(t *testing.T) {
	next := mixed()
	for range 200 {
		var l []api.Value
		seen := map[string]api.Elem{}
		for range 40 {
			n, e := "f"+strconv.Itoa(next(30)), elem(uint64(next(99)))
			l, seen[n] = assign.With(l, n, e), e
		}
		if len(l) != len(seen) || !slices.IsSortedFunc(l, func(a, b api.Value) int { return strings.Compare(a.Name, b.Name) }) {
			t.Fatal(l)
		}
		for n, e := range seen {
			if got, is := assign.Get(l, n); got != e || !is {
				t.Fatal(l, n)
			}
		}
	}
}

// P18.2: Least.

func TestLeast(t *testing.T) {
	for _, f := range append(append(lattices(), greatest()...), wrong()...) {
		s := scope(single(chain("lo", "hi")), f, single(table(3)))
		a := assign.Least(s)
		want := api.Assign{Labels: []api.Elem{{}, {}, shape.Bottom(f), {}, elem(4), {}}, Rows: make([][]api.Value, 6)}
		if !alike(a, want) {
			t.Fatal(f, a)
		}
	}
}

func TestLeastOdd(t *testing.T) {
	if a := assign.Least(api.Scope{}); len(a.Labels) != 0 || len(a.Rows) != 0 {
		t.Fatal(a)
	}
	numbers := append([]int{0, 1, 2, 3, 4}, odd...)
	for _, kind := range numbers {
		for _, lat := range numbers {
			var bottom api.Elem
			if kind == api.Label && lat == 2 {
				bottom = elem(8)
			}
			if a := assign.Least(oneVar(kind, lat)); !alike(a, api.Assign{Labels: []api.Elem{bottom}, Rows: make([][]api.Value, 1)}) {
				t.Fatal(kind, lat, a)
			}
			if a := assign.Least(api.Scope{Vars: []api.Var{{Kind: kind, Lat: lat}}}); !alike(a, api.Assign{Labels: make([]api.Elem, 1), Rows: make([][]api.Value, 1)}) {
				t.Fatal(kind, lat, a)
			}
		}
	}
}

// P18.3: Leq and Meet.

func TestLeqMeet(t *testing.T) {
	for _, l := range [][]api.Assign{anyhow(), valid(scope(lattices()...), 60), valid(scope(greatest()...), 30)} {
		for _, a := range l {
			for _, b := range l {
				if assign.Leq(a, b) != modelLeq(a, b) {
					t.Fatal("Leq", a, b)
				}
				if m := assign.Meet(a, b); !alike(m, modelMeet(a, b)) {
					t.Fatal("Meet", a, b, m)
				}
			}
		}
	}
}

func TestLeqLengths(t *testing.T) {
	label := func(l ...api.Elem) api.Assign { return api.Assign{Labels: l} }
	row := func(l ...[]api.Value) api.Assign { return api.Assign{Rows: l} }
	f, g := []api.Value{value("f", 1)}, []api.Value{value("f")}
	for _, x := range []struct {
		a, b api.Assign
		want bool
	}{
		{label(elem(1)), label(elem(1)), true},
		{label(elem(1)), label(elem(1), elem(5)), true},
		{label(elem(1), elem()), label(elem(1)), true},
		{label(elem(1), elem(5)), label(elem(1)), false},
		{label(elem(1), elem(), elem(1)), label(elem(1)), false},
		{label(), label(elem(1)), true},
		{label(elem(1)), label(), false},
		{row(f), row(f), true},
		{row(f), row(f, f), true},
		{row(f, nil), row(f), true},
		{row(f, f), row(f), false},
		{row(nil, nil, g), row(nil), false},
		{row(), row(f), true},
		{row(g), row(), false},
		{row(g), row(f), true},
		{row(f), row(g), false},
		{row(nil, f), row(f), false},
		{api.Assign{Labels: []api.Elem{elem(1)}, Rows: [][]api.Value{f}}, api.Assign{Labels: []api.Elem{elem(1)}, Rows: [][]api.Value{g}}, false},
		{api.Assign{Labels: []api.Elem{elem(1)}, Rows: [][]api.Value{f}}, api.Assign{Labels: []api.Elem{elem(2)}, Rows: [][]api.Value{f}}, false},
		{api.Assign{Labels: []api.Elem{elem(1)}, Rows: [][]api.Value{g}}, api.Assign{Labels: []api.Elem{elem(3)}, Rows: [][]api.Value{f}}, true},
	} {
		if assign.Leq(x.a, x.b) != x.want {
			t.Fatal(x)
		}
	}
}

// TestTwice has rows with several fields of one name: the first one of b counts, and each one of a.
func TestTwice(t *testing.T) {
	row := func(l ...api.Value) api.Assign { return api.Assign{Rows: [][]api.Value{l}} }
	a, b := row(value("f", 1), value("f", 2)), row(value("f", 3), value("f", 0))
	if !assign.Leq(a, b) || assign.Leq(b, a) || assign.Leq(a, a) || assign.Leq(a, row(value("f"), value("f", 3))) {
		t.Fatal()
	}
	if m := assign.Meet(a, b); !alike(m, row(value("f", 1), value("f", 2))) {
		t.Fatal(m)
	}
	if m := assign.Meet(b, a); !alike(m, row(value("f", 1), value("f", 0))) {
		t.Fatal(m)
	}
}

// P18.4: Text.

func TestText(t *testing.T) {
	for _, s := range []api.Scope{scope(lattices()...), scope(greatest()...)} {
		for _, a := range valid(s, 40) {
			if got := assign.Text(s, a); got == "" || got != modelText(s, a) {
				t.Fatal(got)
			}
		}
	}
}

func TestTextWhole(t *testing.T) {
	s := scope(lattices()...)
	a := assign.Least(s)
	a.Labels[4], a.Labels[6] = elem(3), elem(3)
	a.Rows[1] = []api.Value{value("f"), value("g")}
	a.Rows[5] = []api.Value{value("f", 1), value("f0"), value("g", 3)}
	a.Rows[13] = []api.Value{value("f", 1, 15)}
	want := "x0=#only r0=[f=#only,g=#only] x1=#lo r1=[] x2=#{a,b} r2=[f=#{a},f0=#{},g=#{a,b}] x3=#[n0:{}] r3=[] x4=#n3 r4=[] x5=#(n1) r5=[] x6=#(lo,n3) r6=[f=#(hi,n0)] x7=#([],{},lo) r7=[]"
	if got := assign.Text(s, a); got != want {
		t.Fatal(got)
	}
}

func TestTextInvalid(t *testing.T) {
	s := scope(single(chain("lo", "hi")))
	none := make([][]api.Value, 2)
	for _, a := range []api.Assign{{}, {Labels: make([]api.Elem, 2)}, {Rows: none}, {Labels: make([]api.Elem, 3), Rows: make([][]api.Value, 3)},
		{Labels: []api.Elem{elem(2), {}}, Rows: none},
		{Labels: []api.Elem{{}, elem(1)}, Rows: none},
		{Labels: make([]api.Elem, 2), Rows: [][]api.Value{{value("f")}, nil}},
		{Labels: make([]api.Elem, 2), Rows: [][]api.Value{nil, {value("f", 2)}}},
		{Labels: make([]api.Elem, 2), Rows: [][]api.Value{nil, {value("F")}}},
		{Labels: make([]api.Elem, 2), Rows: [][]api.Value{nil, {value("g"), value("f")}}},
	} {
		if got := assign.Text(s, a); got != "" {
			t.Fatal(a, got)
		}
	}
	for _, f := range wrong() {
		s := scope(f)
		if got := assign.Text(s, assign.Least(s)); got != "" {
			t.Fatal(got)
		}
		s.Vars = s.Vars[1:]
		if got := assign.Text(s, assign.Least(s)); got != "r0=[]" {
			t.Fatal(got)
		}
	}
	numbers := append([]int{0, 1, 2, 3, 4}, odd...)
	for _, kind := range numbers {
		for _, lat := range numbers {
			s := oneVar(kind, lat)
			a := assign.Least(s)
			if got := assign.Text(s, a); got != modelText(s, a) {
				t.Fatal(kind, lat, got)
			}
		}
	}
}

func TestTextNames(t *testing.T) {
	s := scope(single(chain("lo", "hi")))
	s.Vars[0].Name, s.Vars[1].Name = "", "A b"
	if got := assign.Text(s, assign.Least(s)); got != "=#lo A b=[]" {
		t.Fatal(got)
	}
	if got := assign.Text(api.Scope{}, api.Assign{}); got != "" {
		t.Fatal(got)
	}
	if got := assign.Text(api.Scope{Lats: s.Lats}, api.Assign{}); got != "" {
		t.Fatal(got)
	}
}

// P18.5: the laws.

func TestOrder(t *testing.T) {
	for _, s := range []api.Scope{scope(), scope(single(chain("lo", "mid", "hi"))), scope(single(table(4))), scope(single(grid(2)), single(power("a", "b"))), scope(lattices()...), scope(greatest()...)} {
		l := valid(s, 25)
		for _, a := range l[1:8] {
			for _, b := range l[1:8] {
				l = append(l, assign.Meet(a, b))
			}
		}
		for _, a := range l {
			if !assign.Right(s, a) || !assign.Leq(a, a) || !assign.Leq(assign.Least(s), a) {
				t.Fatal(a)
			}
			for _, b := range l {
				if assign.Leq(a, b) && assign.Leq(b, a) != assign.Same(a, b) {
					t.Fatal(a, b)
				}
				for _, c := range l {
					if assign.Leq(a, b) && assign.Leq(b, c) && !assign.Leq(a, c) {
						t.Fatal(a, b, c)
					}
				}
			}
		}
	}
}

func TestBound(t *testing.T) {
	for _, s := range []api.Scope{scope(single(chain("lo", "mid", "hi"))), scope(single(table(4))), scope(lattices()...), scope(greatest()...)} {
		l := valid(s, 15)
		for _, a := range l {
			for _, b := range l {
				m := assign.Meet(a, b)
				if !assign.Right(s, m) || !assign.Leq(m, a) || !assign.Leq(m, b) || !assign.Same(m, assign.Meet(b, a)) {
					t.Fatal(a, b, m)
				}
				for _, c := range l {
					c = assign.Meet(c, assign.Meet(a, b))
					if !assign.Leq(c, m) {
						t.Fatal(a, b, c)
					}
				}
			}
		}
	}
}

// TestGreatest compares all valid assignments of a small scope: what is below two of them is below their Meet.
func TestGreatest(t *testing.T) {
	s := scope(single(table(4)))
	some := elements(s.Lats[0].Shape)
	var l []api.Assign
	for _, x := range some {
		l = append(l, api.Assign{Labels: []api.Elem{x, {}}, Rows: make([][]api.Value, 2)})
		for _, f := range some {
			l = append(l, api.Assign{Labels: []api.Elem{x, {}}, Rows: [][]api.Value{nil, {{Name: "f", Elem: f}}}})
		}
	}
	if len(some) != 4 || len(l) != 20 {
		t.Fatal(some)
	}
	for _, a := range l {
		for _, b := range l {
			m := assign.Meet(a, b)
			for _, c := range l {
				if assign.Leq(c, m) != (assign.Leq(c, a) && assign.Leq(c, b)) {
					t.Fatal(a, b, c)
				}
			}
		}
	}
}

// The example.

func TestExample(t *testing.T) {
	s := api.Scope{Lats: []api.Lat{{Name: "k", Shape: single(chain("lo", "hi"))}}, Vars: []api.Var{{Name: "x", Kind: api.Label}, {Name: "r", Kind: api.Row}}}
	a := api.Assign{Labels: []api.Elem{elem(1), {}}, Rows: [][]api.Value{nil, {value("f")}}}
	if got := assign.Text(s, a); got != "x=#hi r=[f=#lo]" {
		t.Fatal(got)
	}
}

// The memory.

// spare returns a copy of l with memory beyond its length, all of which is filled with x, and this memory.
func spare[T any](l []T, x T) ([]T, []T) {
	long := append(slices.Clone(l), x, x, x)
	return long[:len(l)], long[len(l):]
}

// TestBeyond has lists with memory beyond their lengths.
func TestBeyond(t *testing.T) {
	s := scope(lattices()...)
	for _, a := range valid(s, 10) {
		b := a
		want := [...]any{assign.Text(s, a), assign.Meet(a, a), assign.With(a.Rows[1], "a1", elem(1))}
		labels, moreLabels := spare(a.Labels, elem(math.MaxUint64))
		rows, moreRows := spare(a.Rows, []api.Value{value("q", 9)})
		row, moreRow := spare(a.Rows[1], value("aa", 9))
		rows[1] = row
		b.Labels, b.Rows = labels, rows
		got := [...]any{assign.Text(s, b), assign.Meet(b, b), assign.With(row, "a1", elem(1))}
		if !reflect.DeepEqual(got, want) || !assign.Right(s, b) || !assign.Same(a, b) || !assign.Leq(b, a) || !assign.Leq(a, b) {
			t.Fatal(got, want)
		}
		for i := range 3 {
			if moreLabels[i] != elem(math.MaxUint64) || moreRow[i] != value("aa", 9) || !slices.Equal(moreRows[i], []api.Value{value("q", 9)}) {
				t.Fatal(i)
			}
		}
	}
}

// TestArguments calls all functions: none of them changes what it is passed.
func TestArguments(t *testing.T) {
	s, same := scope(lattices()...), scope(lattices()...)
	l := append(valid(s, 10), anyhow()...)
	for _, a := range l {
		for _, b := range l {
			x, y := whole(a), whole(b)
			assign.Right(s, x)
			assign.Text(s, x)
			assign.Same(x, y)
			assign.Leq(x, y)
			assign.Meet(x, y)
			if !reflect.DeepEqual(x, whole(a)) || !reflect.DeepEqual(y, whole(b)) {
				t.Fatal(a, b)
			}
		}
	}
	assign.Least(s)
	if !reflect.DeepEqual(s, same) {
		t.Fatal(s)
	}
}

// scribble overwrites all of a.
func scribble(a api.Assign) {
	for i := range a.Labels {
		a.Labels[i] = elem(77)
	}
	for _, row := range a.Rows {
		for i := range row {
			row[i] = value("scribble", 77)
		}
	}
	for i := range a.Rows {
		a.Rows[i] = nil
	}
}

// TestResults overwrites results: they are neither the arguments' memory nor that of other results.
func TestResults(t *testing.T) {
	s := scope(lattices()...)
	l := valid(s, 10)
	for _, a := range l {
		for _, b := range l {
			x, y := whole(a), whole(b)
			scribble(assign.Meet(x, y))
			scribble(assign.Meet(x, x))
			scribble(assign.Least(s))
			for _, row := range x.Rows {
				for _, n := range []string{"a", "a1", "zz"} {
					r := assign.With(row, n, elem(1))
					for i := range r {
						r[i] = value("scribble", 77)
					}
				}
			}
			if !alike(x, a) || !alike(y, b) {
				t.Fatal(a, b)
			}
			m := assign.Meet(x, y)
			scribble(x)
			scribble(y)
			if !alike(m, modelMeet(a, b)) {
				t.Fatal(a, b)
			}
		}
	}
}

// TestApart overwrites each row of a result: the other ones stay.
func TestApart(t *testing.T) {
	row := []api.Value{value("a", 1), value("b", 1)}
	a := api.Assign{Labels: make([]api.Elem, 3), Rows: [][]api.Value{row, row, row}}
	for i := range 3 {
		m := assign.Meet(a, a)
		m.Rows[i][0] = value("z", 9)
		_ = append(m.Rows[i], value("z", 9))
		for j := range 3 {
			if i != j && !slices.Equal(m.Rows[j], row) {
				t.Fatal(i, j)
			}
		}
	}
}

// Long lists, none of which may take more than a moment.

// many is a number of items for which a search through all of them for each one would take too long.
const many = 1 << 18

func TestLongRows(t *testing.T) {
	var l, back []api.Value
	for i := range many {
		n := "f" + strconv.Itoa(many+i)
		l = append(l, value(n, 1))
	}
	for _, v := range slices.Backward(l) {
		back = append(back, v)
	}
	a, b := api.Assign{Rows: [][]api.Value{l}}, api.Assign{Rows: [][]api.Value{back}}
	if !assign.Leq(a, b) || !assign.Leq(b, a) || assign.Same(a, b) || !assign.Same(a, whole(a)) {
		t.Fatal()
	}
	if m := assign.Meet(a, b); !alike(m, a) {
		t.Fatal(len(m.Rows[0]))
	}
	if r := assign.With(l, "g", elem(1)); len(r) != many+1 || r[many] != value("g", 1) {
		t.Fatal(len(r))
	}
	if e, is := assign.Get(back, l[0].Name); e != elem(1) || !is {
		t.Fatal(e, is)
	}
	s := scope(single(chain("lo", "hi")))
	a = api.Assign{Labels: make([]api.Elem, 2), Rows: [][]api.Value{nil, l}}
	if !assign.Right(s, a) || assign.Right(s, api.Assign{Labels: make([]api.Elem, 2), Rows: [][]api.Value{nil, back}}) {
		t.Fatal()
	}
	if got := assign.Text(s, a); !strings.HasSuffix(got, ",f524287=#hi]") {
		t.Fatal(len(got))
	}
}

// TestLongScopes has many variables of a lattice whose check alone takes long.
func TestLongScopes(t *testing.T) {
	s := scope(greatest()[4])
	s.Vars = slices.Repeat(s.Vars, many)
	a := assign.Least(s)
	for i := 1; i < len(a.Rows); i += 2 {
		a.Rows[i] = []api.Value{{Name: "f", Elem: a.Labels[0]}}
	}
	if !assign.Right(s, a) || !assign.Leq(a, a) || !assign.Same(a, assign.Meet(a, a)) {
		t.Fatal()
	}
	one := modelText(scope(greatest()[4]), api.Assign{Labels: a.Labels[:2], Rows: a.Rows[:2]})
	if got := assign.Text(s, a); len(got) != many*(len(one)+1)-1 || !strings.HasSuffix(got, one) {
		t.Fatal(len(got))
	}
}
