package holds_test

import (
	"math"
	"reflect"
	"slices"
	"strconv"
	"strings"
	"testing"

	"clearance/api"
	"clearance/assign"
	"clearance/code"
	"clearance/command"
	"clearance/fit"
	"clearance/holds"
	"clearance/scope"
	"clearance/shape"
)

// elem returns the element with these words.
func elem(words ...uint64) api.Elem {
	var e api.Elem
	copy(e[:], words)
	return e
}

// The terms and assertions, in short.

func value(n string, words ...uint64) api.Value {
	return api.Value{Name: n, Elem: elem(words...)}
}
func variable(v int) api.Atom { return api.Atom{Var: v} }
func constant(words ...uint64) api.Atom {
	return api.Atom{Var: -1, Const: elem(words...)}
}
func field(n string, a api.Atom) api.Field { return api.Field{Name: n, Atom: a} }
func row(tail int, l ...api.Field) api.RowTerm {
	return api.RowTerm{Fields: l, Tail: tail}
}
func roweq(a, b api.RowTerm) api.Assert { return api.Assert{Op: api.OpRoweq, A: a, B: b} }
func lacks(v int, n string) api.Assert {
	return api.Assert{Op: api.OpLacks, Var: v, Field: n}
}
func leq(lat int, to api.Atom, l ...api.Ins) api.Assert {
	return api.Assert{Op: api.OpLeq, Lat: lat, Code: l, To: to}
}
func push(v int) api.Ins { return api.Ins{Op: api.PushVar, N: v} }
func pushed(words ...uint64) api.Ins {
	return api.Ins{Op: api.PushConst, Const: elem(words...)}
}
func join(n int) api.Ins { return api.Ins{Op: api.DoJoin, N: n} }
func meet(n int) api.Ins { return api.Ins{Op: api.DoMeet, N: n} }

// odd are numbers that are those of no variable, lattice or command.
var odd = []int{-1, -2, math.MinInt, math.MinInt32, math.MaxInt, math.MaxInt32, 1 << 8, 1 << 16, 1<<32 + 1, -1 << 32}

// mixed returns a function that returns numbers, the same ones in each test, in an order that is fixed but mixed.
func mixed() func(n int) int {
	x := uint64(88172645463325252)
	return func(n int) int {
		x ^= x << 13
		x ^= x >> 7
		x ^= x << 17
		return int(x % uint64(n))
	}
}

// The problems.

// problem returns the problem that the lines declare and assert.
func problem(t *testing.T, lines ...string) api.Problem {
	t.Helper()
	var p api.Problem
	for _, line := range lines {
		c, f := command.Read(line)
		if f.Class == 0 {
			f = scope.Least(scope.Fault(p.Scope, c), fit.Fault(p.Scope, c))
		}
		if f.Class != 0 {
			t.Fatalf("%q gives %v", line, f)
		}
		if a, is := fit.Assert(p.Scope, c); is {
			p.Asserts = append(p.Asserts, a)
		} else {
			p.Scope = scope.Add(p.Scope, c)
		}
	}
	return p
}

// sampleLines are lattices of each kind with two labels and two rows each. The words of t: bot 1, a 3, b 5, c 9, top 31.
var sampleLines = []string{"chain k {lo,mid,hi}", "power p {a,b}", "grid g {o,q} {o<q}", "table t {bot,a,b,c,top} {bot<a,bot<b,bot<c,a<top,b<top,c<top}", "product w {k,t}",
	"label k {xk,yk}", "row k {rk,sk}", "label p {xp,yp}", "row p {rp,sp}", "label g {xg,yg}", "row g {rg,sg}", "label t {xt,yt}", "row t {rt,st}", "label w {xw,yw}", "row w {rw,sw}"}

// constants returns constants of the sample's lattices.
func constants() map[string][]string {
	return map[string][]string{
		"k": {"#lo", "#mid", "#hi"},
		"p": {"#{}", "#{a}", "#{b}", "#{a,b}"},
		"g": {"#[]", "#[o:{}]", "#[q:{o}]", "#[o:{q}]", "#[o:{},q:{}]"},
		"t": {"#bot", "#a", "#b", "#c", "#top"},
		"w": {"#(lo,bot)", "#(hi,a)", "#(lo,b)", "#(mid,c)", "#(hi,top)"},
	}
}

// drawn draws lines that are assertions about one of the sample's lattices.
type drawn struct {
	next func(n int) int
	lat  string
}

func (d drawn) of(l ...string) string { return l[d.next(len(l))] }

func (d drawn) atom() string {
	if d.next(2) == 0 {
		return d.of(constants()[d.lat]...)
	}
	return d.of("x", "y") + d.lat
}

func (d drawn) label(depth int) string {
	if depth == 0 || d.next(2) == 0 {
		return d.atom()
	}
	var l []string
	for range 1 + d.next(3) {
		l = append(l, d.label(depth-1))
	}
	return d.of("+", "&") + "(" + strings.Join(l, ",") + ")"
}

func (d drawn) row() string {
	tail := d.of("r", "s") + d.lat
	if d.next(4) == 0 {
		return tail
	}
	var l []string
	for _, n := range []string{"f", "g", "h"} {
		if d.next(3) == 0 {
			l = append(l, n+"="+d.atom())
		}
	}
	if d.next(3) == 0 {
		return "[" + strings.Join(l, ",") + "]"
	}
	return "[" + strings.Join(l, ",") + "|" + tail + "]"
}

func (d drawn) line() string {
	switch d.next(5) {
	case 0, 1:
		return "leq " + d.lat + " " + d.label(2) + " " + d.atom()
	case 2, 3:
		return "roweq " + d.lat + " " + d.row() + " " + d.row()
	}
	return "lacks " + d.of("r", "s") + d.lat + " " + d.of("f", "g", "h")
}

// The assignments.

// few returns elements of f: the bounds, and those of some others that are its elements.
func few(f api.Shape) []api.Elem {
	l := []api.Elem{shape.Bottom(f), shape.Top(f)}
	for _, e := range []api.Elem{elem(1), elem(2), elem(3), elem(5), elem(9), elem(1, 1), elem(3, 3), elem(0, 5), elem(1, 9), elem(1<<8 + 1)} {
		if shape.Fits(f, e) {
			l = append(l, e)
		}
	}
	return l
}

// valid returns n valid assignments of s, the first of which is the least one. Their elements and rows are few, so that many assertions are satisfied.
func valid(s api.Scope, next func(n int) int, n int) []api.Assign {
	var elems [][]api.Elem
	for _, l := range s.Lats {
		elems = append(elems, few(l.Shape))
	}
	l := []api.Assign{assign.Least(s)}
	for len(l) < n {
		a := api.Assign{Labels: make([]api.Elem, len(s.Vars)), Rows: make([][]api.Value, len(s.Vars))}
		for i, v := range s.Vars {
			some := elems[v.Lat]
			if v.Kind == api.Label {
				a.Labels[i] = some[next(len(some))]
				continue
			}
			for _, n := range []string{"f", "g", "h"} {
				if next(2) == 0 {
					a.Rows[i] = append(a.Rows[i], api.Value{Name: n, Elem: some[next(len(some))]})
				}
			}
		}
		l = append(l, a)
	}
	return l
}

// anyhow returns assignments that need not be valid in any scope.
func anyhow() []api.Assign {
	return []api.Assign{
		{},
		{Labels: []api.Elem{elem(1)}},
		{Rows: [][]api.Value{nil}},
		{Labels: []api.Elem{elem(1), elem(2, 7)}, Rows: [][]api.Value{{value("f", 1)}, {value("f", 1), value("g", 3)}}},
		{Labels: []api.Elem{elem(3), {}}, Rows: [][]api.Value{{value("g", 1), value("f", 3)}, {value("f", 3), value("g", 1)}, {}}},
		{Labels: []api.Elem{elem(1), elem(1), elem(1)}, Rows: [][]api.Value{{value("f", 1), value("f", 1)}, {value("", 1)}, {value("B", 5), value("", 1)}}},
		{Labels: []api.Elem{elem(0, 0, 0, 0, 0, 0, 0, 1<<63), elem(math.MaxUint64), elem(5)}, Rows: [][]api.Value{{value("g"), value("f"), value("g", 1)}, nil, {value("h", 3)}, {value("f", 1)}}},
	}
}

// whole returns a copy of a with empty lists instead of nil ones.
func whole(a api.Assign) api.Assign {
	w := api.Assign{Labels: append([]api.Elem{}, a.Labels...), Rows: [][]api.Value{}}
	for _, l := range a.Rows {
		w.Rows = append(w.Rows, append([]api.Value{}, l...))
	}
	return w
}

// What the promises say, field by field.

// modelAtom is the definition of the element of an atom.
func modelAtom(x api.Atom, a api.Assign) (api.Elem, bool) {
	for i, e := range a.Labels {
		if i == x.Var {
			return e, true
		}
	}
	return x.Const, x.Var < 0
}

// modelRow is P19.1: the fields are inserted one by one, each behind those that precede it.
func modelRow(t api.RowTerm, a api.Assign) ([]api.Value, bool) {
	found := t.Tail < 0
	var all []api.Value
	for i, l := range a.Rows {
		if i == t.Tail {
			found, all = true, append(all, l...)
		}
	}
	for _, f := range t.Fields {
		e, has := modelAtom(f.Atom, a)
		found, all = found && has, append(all, api.Value{Name: f.Name, Elem: e})
	}
	var l []api.Value
	for _, v := range all {
		i := 0
		for i < len(l) && l[i].Name < v.Name {
			i++
		}
		found = found && (i == len(l) || l[i].Name != v.Name)
		l = slices.Insert(l, i, v)
	}
	if !found {
		return nil, false
	}
	return l, true
}

// modelOne is P19.2 for One.
func modelOne(s api.Scope, x api.Assert, a api.Assign) bool {
	switch x.Op {
	case 8:
		for i, l := range s.Lats {
			if i == x.Lat {
				low, isLow := code.Eval(l.Shape, x.Code, a.Labels)
				high, isHigh := modelAtom(x.To, a)
				for j := range low {
					isHigh = isHigh && low[j]&^high[j] == 0
				}
				return isLow && isHigh
			}
		}
	case 9:
		l, isL := modelRow(x.A, a)
		r, isR := modelRow(x.B, a)
		same := isL && isR && len(l) == len(r)
		for _, v := range l {
			same = same && slices.Contains(r, v)
		}
		return same
	case 10:
		for i, l := range a.Rows {
			if i == x.Var {
				has := false
				for _, v := range l {
					has = has || v.Name == x.Field
				}
				return !has
			}
		}
	}
	return false
}

// modelFirst is P19.2 for First.
func modelFirst(p api.Problem, a api.Assign) int {
	first := -1
	for i := len(p.Asserts) - 1; i >= 0; i-- {
		if !modelOne(p.Scope, p.Asserts[i], a) {
			first = i
		}
	}
	return first
}

// modelAll is P19.2 for All.
func modelAll(p api.Problem, a api.Assign) bool {
	satisfied := 0
	for _, x := range p.Asserts {
		if modelOne(p.Scope, x, a) {
			satisfied++
		}
	}
	return assign.Right(p.Scope, a) && satisfied == len(p.Asserts)
}

// modelRight is P19.3.
func modelRight(p api.Problem) bool {
	fitting := 0
	for _, x := range p.Asserts {
		if fit.Right(p.Scope, x) {
			fitting++
		}
	}
	return scope.Right(p.Scope) && fitting == len(p.Asserts) && fitting <= 64
}

// checkRow compares Row with the model.
func checkRow(t *testing.T, x api.RowTerm, a api.Assign) bool {
	t.Helper()
	l, has := holds.Row(x, a)
	want, is := modelRow(x, a)
	if has != is || !slices.Equal(l, want) || !has && l != nil {
		t.Fatalf("the value of %v under %v is %v, %v; want %v, %v", x, a, l, has, want, is)
	}
	return has
}

// checkOne compares One with the model.
func checkOne(t *testing.T, s api.Scope, x api.Assert, a api.Assign) bool {
	t.Helper()
	got := holds.One(s, x, a)
	if got != modelOne(s, x, a) {
		t.Fatalf("that %v satisfies %+v is %v", a, x, got)
	}
	return got
}

// checkProblem compares First and All with the model.
func checkProblem(t *testing.T, p api.Problem, a api.Assign) int {
	t.Helper()
	first := holds.First(p, a)
	if want := modelFirst(p, a); first != want {
		t.Fatalf("the first of %+v is %v, want %v", p, first, want)
	}
	if got := holds.All(p, a); got != modelAll(p, a) {
		t.Fatalf("that %v satisfies all of %+v is %v", a, p, got)
	}
	return first
}

// P19.1: Row.

func TestRowCases(t *testing.T) {
	a := api.Assign{
		Labels: []api.Elem{elem(1), elem(3, 5), {}},
		Rows:   [][]api.Value{nil, {value("f", 1), value("h", 7)}, {value("h", 2), value("f", 3)}, {value("f", 1), value("f", 1)}},
	}
	for _, x := range []struct {
		t    api.RowTerm
		want []api.Value
		is   bool
	}{
		{row(-1), nil, true},
		{row(math.MinInt), nil, true},
		{row(0), nil, true},
		{row(1), []api.Value{value("f", 1), value("h", 7)}, true},
		{row(2), []api.Value{value("f", 3), value("h", 2)}, true},
		{row(3), nil, false},
		{row(4), nil, false},
		{row(math.MaxInt), nil, false},
		{row(-1, field("f", variable(1))), []api.Value{value("f", 3, 5)}, true},
		{row(-1, field("f", constant(9, 2))), []api.Value{value("f", 9, 2)}, true},
		{row(-1, field("f", variable(2)), field("e", variable(0))), []api.Value{value("e", 1), value("f")}, true},
		{row(0, field("f", variable(1)), field("g", variable(1))), []api.Value{value("f", 3, 5), value("g", 3, 5)}, true},
		{row(1, field("g", variable(0))), []api.Value{value("f", 1), value("g", 1), value("h", 7)}, true},
		{row(1, field("z", variable(0)), field("a", constant(4))), []api.Value{value("a", 4), value("f", 1), value("h", 7), value("z", 1)}, true},
		{row(2, field("g", variable(0))), []api.Value{value("f", 3), value("g", 1), value("h", 2)}, true},
		// One name for two fields: of the tail, of the term, of both; with the same element, too.
		{row(3, field("g", variable(0))), nil, false},
		{row(1, field("f", variable(0))), nil, false},
		{row(1, field("h", variable(1))), nil, false},
		{row(-1, field("f", variable(0)), field("f", variable(1))), nil, false},
		{row(-1, field("f", variable(0)), field("g", variable(1)), field("f", variable(0))), nil, false},
		// Variables without a value.
		{row(-1, field("f", variable(3))), nil, false},
		{row(-1, field("f", variable(math.MaxInt))), nil, false},
		{row(1, field("g", variable(0)), field("i", variable(3))), nil, false},
		// The constant of a variable, and the number of a constant, do not matter.
		{row(-1, field("f", api.Atom{Var: 0, Const: elem(8)})), []api.Value{value("f", 1)}, true},
		{row(-1, field("f", api.Atom{Var: 3, Const: elem(8)})), nil, false},
		{row(-1, field("f", api.Atom{Var: math.MinInt, Const: elem(8)})), []api.Value{value("f", 8)}, true},
	} {
		l, is := holds.Row(x.t, a)
		if !slices.Equal(l, x.want) || is != x.is {
			t.Fatal(x, l, is)
		}
		checkRow(t, x.t, a)
	}
}

// fieldNames are names of fields, not all of which are names (chapter 2).
var fieldNames = []string{"", "B", "a", "a0", "a_", "aa", "f", "g", "\xff"}

// terms returns row terms with these tails and up to size fields, with these names and atoms.
func terms(size int, tails []int, names []string, atoms []api.Atom) []api.RowTerm {
	lists := [][]api.Field{nil}
	for from := 0; size > 0; size-- {
		to := len(lists)
		for _, l := range lists[from:to] {
			for _, n := range names {
				for _, x := range atoms {
					lists = append(lists, append(slices.Clone(l), field(n, x)))
				}
			}
		}
		from = to
	}
	var l []api.RowTerm
	for _, tail := range tails {
		for _, fields := range lists {
			l = append(l, row(tail, fields...))
		}
	}
	return l
}

func TestRowTerms(t *testing.T) {
	tails := append([]int{0, 1, 2, 3, 4}, odd...)
	held := 0
	for _, a := range anyhow() {
		for _, x := range terms(2, tails, fieldNames, []api.Atom{variable(0), variable(2), constant(7)}) {
			if checkRow(t, x, a) {
				held++
			}
		}
		for _, x := range terms(3, tails[:4], []string{"f", "a", "g"}, []api.Atom{variable(1), constant()}) {
			checkRow(t, x, a)
		}
	}
	if held < 1000 {
		t.Fatal(held)
	}
}

func TestRowNumbers(t *testing.T) {
	numbers := append([]int{0, 1, 2, 3, 4}, odd...)
	for _, a := range anyhow() {
		for _, i := range numbers {
			checkRow(t, row(i), a)
			for _, j := range numbers {
				checkRow(t, row(i, field("c", variable(j))), a)
				checkRow(t, row(j, field("c", constant(1)), field("d", variable(i))), a)
			}
		}
	}
}

// TestRowOrder has rows with many fields in any order.
func TestRowOrder(t *testing.T) {
	next := mixed()
	for range 300 {
		a := api.Assign{Labels: []api.Elem{elem(1), elem(2)}, Rows: make([][]api.Value, 1)}
		var l []api.Field
		for range next(30) {
			n := "f" + strconv.Itoa(next(4000))
			if next(2) == 0 {
				a.Rows[0] = append(a.Rows[0], value(n, uint64(next(9))))
			} else {
				l = append(l, field(n, variable(next(2))))
			}
		}
		checkRow(t, row(0, l...), a)
		checkRow(t, row(-1, l...), a)
	}
}

// P19.2: One, for each command.

func TestLeqLines(t *testing.T) {
	for _, x := range []struct {
		line string
		x, y api.Elem
		want bool
	}{
		{"leq k xk yk", elem(), elem(), true},
		{"leq k xk yk", elem(1), elem(3), true},
		{"leq k xk yk", elem(3), elem(1), false},
		{"leq k xk #mid", elem(1), elem(), true},
		{"leq k xk #mid", elem(3), elem(3), false},
		{"leq k #mid xk", elem(1), elem(), true},
		{"leq k #mid xk", elem(), elem(3), false},
		{"leq k #lo #hi", elem(), elem(), true},
		{"leq k #hi #lo", elem(), elem(), false},
		{"leq k +(xk,#mid) yk", elem(), elem(1), true},
		{"leq k +(xk,#mid) yk", elem(3), elem(1), false},
		{"leq k +(xk,#mid) yk", elem(), elem(), false},
		{"leq k &(xk,#mid) yk", elem(3), elem(1), true},
		{"leq k &(xk,#mid) yk", elem(), elem(), true},
		{"leq k &(xk,#mid) yk", elem(3), elem(), false},
		{"leq p xp yp", elem(1), elem(2), false},
		{"leq p xp yp", elem(2), elem(3), true},
		{"leq p +(xp,#{b}) yp", elem(1), elem(3), true},
		{"leq p +(xp,#{b}) yp", elem(1), elem(1), false},
		// Two of the points of t have the join top, and the meet bot.
		{"leq t +(xt,#b) yt", elem(3), elem(31), true},
		{"leq t +(xt,#b) yt", elem(3), elem(7), false},
		{"leq t +(xt,#b) #top", elem(9), elem(), true},
		{"leq t &(xt,#b) yt", elem(3), elem(1), true},
		{"leq t &(xt,#b) yt", elem(5), elem(9), false},
		{"leq w +(xw,#(lo,b)) yw", elem(1, 3), elem(1, 31), true},
		{"leq w +(xw,#(lo,b)) yw", elem(1, 3), elem(3, 7), false},
		{"leq w xw yw", elem(1, 3), elem(0, 31), false},
	} {
		p := problem(t, append(slices.Clone(sampleLines), x.line)...)
		lat := strings.Fields(x.line)[1]
		_, i := scope.Find(p.Scope, "x"+lat)
		_, j := scope.Find(p.Scope, "y"+lat)
		a := assign.Least(p.Scope)
		a.Labels[i], a.Labels[j] = x.x, x.y
		if got := holds.One(p.Scope, p.Asserts[0], a); got != x.want {
			t.Fatal(x, got)
		}
		checkOne(t, p.Scope, p.Asserts[0], a)
	}
}

// TestLeqCodes has code and atoms of any kind, in lattices that exist or not.
func TestLeqCodes(t *testing.T) {
	s := problem(t, sampleLines...).Scope
	s.Lats = append(s.Lats, api.Lat{}, api.Lat{Shape: api.Shape{Tuple: true, Factors: make([]api.Factor, 9)}})
	codes := [][]api.Ins{nil, {push(0)}, {push(1)}, {push(2)}, {push(3)}, {push(-1)}, {pushed()}, {pushed(3)}, {pushed(3, 1)}, {pushed(0, 0, 0, 0, 0, 0, 0, 1)},
		{push(0), push(1), join(2)}, {push(0), pushed(5), join(2)}, {pushed(3), pushed(5), join(2)}, {pushed(9, 3), pushed(3, 5), meet(2)}, {pushed(3), join(1)},
		{push(0), push(0)}, {push(0), join(2)}, {push(0), join(0)}, {push(0), meet(-1)}, {push(0), {Op: 5, N: 1}}, {{}}, {push(0), {Op: -1}}}
	for _, n := range odd {
		codes = append(codes, []api.Ins{push(n)}, []api.Ins{pushed(1), join(n)})
	}
	atoms := []api.Atom{variable(0), variable(1), variable(2), variable(3), constant(), constant(3), constant(7), constant(31), constant(math.MaxUint64, math.MaxUint64)}
	for _, n := range odd {
		atoms = append(atoms, api.Atom{Var: n, Const: elem(3)})
	}
	held := 0
	for _, lat := range append([]int{0, 1, 2, 3, 4, 5, 6, 7, 8}, odd...) {
		for _, l := range codes {
			for _, to := range atoms {
				for _, a := range anyhow() {
					if checkOne(t, s, leq(lat, to, l...), a) {
						if held++; lat < 0 || lat > 6 {
							t.Fatal(lat)
						}
					}
				}
			}
		}
	}
	if held < 1000 {
		t.Fatal(held)
	}
}

// TestLeqLattice has the same code in two lattices: the join is that of the assertion's own one.
func TestLeqLattice(t *testing.T) {
	s := problem(t, sampleLines...).Scope
	for lat, want := range map[int]bool{0: true, 1: true, 2: true, 3: false, 4: true} {
		x := leq(lat, constant(7), pushed(3), pushed(5), join(2))
		if holds.One(s, x, assign.Least(s)) != want {
			t.Fatal(lat)
		}
		if x.To = constant(31); !holds.One(s, x, assign.Least(s)) {
			t.Fatal(lat)
		}
	}
	if holds.One(api.Scope{}, leq(0, constant(7), pushed()), api.Assign{}) {
		t.Fatal("no lattice")
	}
}

func TestRoweqLines(t *testing.T) {
	f, g, h := value("f", 1), value("g", 3), value("h")
	for _, x := range []struct {
		line string
		r, s []api.Value
		want bool
	}{
		{"roweq k rk sk", nil, nil, true},
		{"roweq k rk sk", []api.Value{f, g}, []api.Value{f, g}, true},
		{"roweq k rk sk", []api.Value{f, g}, []api.Value{f}, false},
		{"roweq k rk sk", []api.Value{f}, []api.Value{f, g}, false},
		{"roweq k rk sk", []api.Value{f}, []api.Value{g}, false},
		{"roweq k rk sk", []api.Value{f}, []api.Value{value("f", 3)}, false},
		{"roweq k rk sk", []api.Value{f}, []api.Value{value("e", 1)}, false},
		{"roweq k rk rk", []api.Value{f, g}, nil, true},
		{"roweq k rk []", nil, []api.Value{f}, true},
		{"roweq k rk []", []api.Value{f}, nil, false},
		{"roweq k rk [f=#mid|sk]", []api.Value{f, h}, []api.Value{h}, true},
		{"roweq k rk [f=#mid|sk]", []api.Value{f}, []api.Value{h}, false},
		{"roweq k rk [f=#mid|sk]", []api.Value{f}, []api.Value{f}, false},
		{"roweq k [g=#hi,f=#mid|rk] sk", []api.Value{h}, []api.Value{f, g, h}, true},
		{"roweq k [g=#hi|rk] [f=#mid|sk]", []api.Value{f}, []api.Value{g}, true},
		{"roweq k [g=#hi|rk] [f=#mid|sk]", []api.Value{f, h}, []api.Value{g, h}, true},
		{"roweq k [g=#hi|rk] [f=#mid|sk]", []api.Value{g}, []api.Value{f}, false},
		{"roweq k [f=xk] [f=yk]", nil, nil, false},
		{"roweq k [f=xk] [f=#mid]", nil, nil, true},
		{"roweq k [f=xk] [f=xk]", nil, nil, true},
		// A row cannot have one field more than itself.
		{"roweq k rk [f=xk|rk]", nil, nil, false},
		{"roweq k rk [f=xk|rk]", []api.Value{f}, nil, false},
	} {
		p := problem(t, append(slices.Clone(sampleLines), x.line)...)
		a := assign.Least(p.Scope)
		a.Labels[0], a.Labels[1] = elem(1), elem(3)
		a.Rows[2], a.Rows[3] = x.r, x.s
		if got := holds.One(p.Scope, p.Asserts[0], a); got != x.want {
			t.Fatal(x, got)
		}
		checkOne(t, p.Scope, p.Asserts[0], a)
	}
}

// TestRoweqTerms compares all pairs of some row terms. The lattice, which need not exist, does not matter.
func TestRoweqTerms(t *testing.T) {
	l := terms(2, []int{-1, 0, 1, 2, 4}, []string{"f", "g", ""}, []api.Atom{variable(0), constant(3)})
	s := problem(t, sampleLines...).Scope
	held := 0
	for _, a := range anyhow() {
		for i, x := range l {
			for j, y := range l {
				e := roweq(x, y)
				if (i+j)%3 > 0 {
					e.Lat = odd[(i+j)%len(odd)]
				}
				if checkOne(t, s, e, a) && i != j {
					held++
				}
			}
		}
	}
	if held < 1000 {
		t.Fatal(held)
	}
}

// TestRoweqOrder has rows that are not in order: fields are equal by their names.
func TestRoweqOrder(t *testing.T) {
	a := api.Assign{Rows: [][]api.Value{{value("g", 1), value("f", 3), value("", 2)}, {value("f", 3), value("", 2), value("g", 1)}, {value("f", 1), value("", 2), value("g", 3)}, {value("f"), value("f")}}}
	for i, want := range []bool{true, true, false, false, false} {
		if holds.One(api.Scope{}, roweq(row(0), row(i)), a) != want || holds.One(api.Scope{}, roweq(row(i), row(0)), a) != want {
			t.Fatal(i)
		}
	}
	// Rows without a value are not even equal to themselves.
	for _, x := range []api.RowTerm{row(3), row(4), row(-1, field("f", variable(0))), row(0, field("g", constant()))} {
		if holds.One(api.Scope{}, roweq(x, x), a) {
			t.Fatal(x)
		}
	}
}

func TestLacks(t *testing.T) {
	s := problem(t, sampleLines...).Scope
	for _, a := range anyhow() {
		for _, v := range append([]int{0, 1, 2, 3, 4}, odd...) {
			for _, n := range append(slices.Clone(fieldNames), "h", "F", "ff", "f\x00") {
				x := lacks(v, n)
				checkOne(t, s, x, a)
				// Neither the scope nor the lattice matters.
				x.Lat = v - 3
				checkOne(t, api.Scope{}, x, a)
			}
		}
	}
	a := api.Assign{Rows: [][]api.Value{{value("h", 1), value("f", 1), value("g")}, nil}}
	for n, want := range map[string]bool{"h": false, "f": false, "g": false, "a": true, "": true, "z": true} {
		if holds.One(s, lacks(0, n), a) != want || !holds.One(s, lacks(1, n), a) || holds.One(s, lacks(2, n), a) || holds.One(s, lacks(-1, n), a) {
			t.Fatal(n)
		}
	}
}

// TestOps has assertions with all parts: only those of the command matter, and all other commands are never satisfied.
func TestOps(t *testing.T) {
	s := problem(t, sampleLines...).Scope
	a := assign.Least(s)
	a.Labels[0], a.Rows[2] = elem(1), []api.Value{value("f", 1)}
	x := api.Assert{Code: []api.Ins{push(0)}, To: constant(1), A: row(2), B: row(-1, field("f", variable(0))), Var: 2, Field: "g"}
	for _, op := range append(odd, 0, 1, 2, 3, 4, 5, 6, 7, 8, 9, 10, 11, 12, 13, 14, 15, 16) {
		if x.Op = op; holds.One(s, x, a) != (op == 8 || op == 9 || op == 10) {
			t.Fatal(op)
		}
		// The parts of the other commands do not matter.
		y := x
		if op != api.OpLeq {
			y.Code, y.To, y.Lat = nil, variable(99), 99
		}
		if op != api.OpRoweq {
			y.A, y.B = row(99), row(0, field("f", variable(99)))
		}
		if op != api.OpLacks {
			y.Var, y.Field = 2, "f"
		}
		if holds.One(s, y, a) != holds.One(s, x, a) {
			t.Fatal(op)
		}
	}
}

// P19.2: First and All.

func TestFirst(t *testing.T) {
	p := problem(t, append(slices.Clone(sampleLines), "leq k xk yk", "roweq k rk sk", "lacks rk f", "leq k yk #mid", "lacks sp g")...)
	least := assign.Least(p.Scope)
	hi, f := elem(3), []api.Value{value("f")}
	for want, change := range map[int]func(a api.Assign){
		-1: func(a api.Assign) { a.Labels[0], a.Labels[1] = elem(1), elem(1) },
		0:  func(a api.Assign) { a.Labels[0], a.Rows[2], a.Rows[7] = hi, f, []api.Value{value("g")} },
		1:  func(a api.Assign) { a.Labels[1], a.Rows[2] = hi, f },
		2:  func(a api.Assign) { a.Labels[1], a.Rows[2], a.Rows[3] = hi, f, f },
		3:  func(a api.Assign) { a.Labels[0], a.Labels[1] = hi, hi },
		4:  func(a api.Assign) { a.Rows[7] = []api.Value{value("f"), value("g")} },
	} {
		a := whole(least)
		change(a)
		if got := checkProblem(t, p, a); got != want {
			t.Fatal(a, got, want)
		}
		if holds.All(p, a) != (want < 0) {
			t.Fatal(a)
		}
	}
	none := api.Problem{Scope: p.Scope}
	if holds.First(none, least) != -1 || holds.First(api.Problem{}, api.Assign{}) != -1 || !holds.All(none, least) || !holds.All(api.Problem{}, api.Assign{}) {
		t.Fatal("none")
	}
}

// TestAllValid has assignments that satisfy all assertions but are not valid.
func TestAllValid(t *testing.T) {
	p := problem(t, append(slices.Clone(sampleLines), "leq k xk #hi", "lacks rk f")...)
	least := assign.Least(p.Scope)
	for i, change := range []func(a *api.Assign){
		func(a *api.Assign) {},
		func(a *api.Assign) { a.Labels[0] = elem(2) },
		func(a *api.Assign) { a.Labels[2] = elem(1) },
		func(a *api.Assign) { a.Labels[12] = elem(7) },
		func(a *api.Assign) { a.Labels = append(a.Labels, api.Elem{}) },
		func(a *api.Assign) { a.Rows = append(a.Rows, nil) },
		func(a *api.Assign) { a.Rows = a.Rows[:19] },
		func(a *api.Assign) { a.Labels = a.Labels[:19] },
		func(a *api.Assign) { a.Rows[0] = []api.Value{value("f")} },
		func(a *api.Assign) { a.Rows[2] = []api.Value{value("h"), value("g")} },
		func(a *api.Assign) { a.Rows[2] = []api.Value{value("g"), value("g")} },
		func(a *api.Assign) { a.Rows[2] = []api.Value{value("F")} },
		func(a *api.Assign) { a.Rows[2] = []api.Value{value("g", 2)} },
	} {
		a := whole(least)
		change(&a)
		if holds.First(p, a) != -1 || holds.All(p, a) != (i == 0) {
			t.Fatal(i, holds.First(p, a), holds.All(p, a))
		}
	}
	// The problem need not be valid.
	q := api.Problem{Scope: p.Scope, Asserts: slices.Repeat(p.Asserts, 50)}
	q.Asserts[7].Lat = -1
	if holds.Right(q) || !holds.All(q, least) {
		t.Fatal("many")
	}
	q.Scope.Vars[0].Name = ""
	if !holds.All(q, least) {
		t.Fatal("no name")
	}
}

// TestProblems draws problems and assignments, some of which satisfy all assertions.
func TestProblems(t *testing.T) {
	next := mixed()
	count := map[int]int{}
	for lat := range constants() {
		d := drawn{next: next, lat: lat}
		for range 100 {
			lines := slices.Clone(sampleLines)
			for range next(6) {
				lines = append(lines, d.line())
			}
			p := problem(t, lines...)
			if !holds.Right(p) {
				t.Fatal(lines)
			}
			for _, a := range append(valid(p.Scope, next, 20), anyhow()...) {
				count[checkProblem(t, p, a)]++
				for _, x := range p.Asserts {
					checkOne(t, p.Scope, x, a)
					checkRow(t, x.A, a)
					checkRow(t, x.B, a)
				}
			}
		}
	}
	for i := -1; i < 4; i++ {
		if count[i] < 50 {
			t.Fatal(count)
		}
	}
}

// P19.3: Right.

func TestRightScope(t *testing.T) {
	for i, change := range []func(s *api.Scope){
		func(s *api.Scope) {},
		func(s *api.Scope) { s.Lats[4].Name = "" },
		func(s *api.Scope) { s.Lats[4].Name = "k" },
		func(s *api.Scope) { s.Lats[4].Name = "xk" },
		func(s *api.Scope) { s.Vars[19].Name = "A" },
		func(s *api.Scope) { s.Vars[19].Name = "xk" },
		func(s *api.Scope) { s.Vars[19].Kind = 3 },
		func(s *api.Scope) { s.Vars[19].Kind = 0 },
		func(s *api.Scope) { s.Vars[19].Lat = 5 },
		func(s *api.Scope) { s.Vars[19].Lat = -1 },
		func(s *api.Scope) { s.Lats[4].Shape = api.Shape{} },
		func(s *api.Scope) { s.Lats[4].Shape.Tuple = false },
		func(s *api.Scope) { s.Lats[4].Shape.Factors[0].Names[1] = "lo" },
		func(s *api.Scope) {
			for i := range 12 {
				s.Lats = append(s.Lats, api.Lat{Name: "more" + strconv.Itoa(i), Shape: s.Lats[0].Shape})
			}
		},
		func(s *api.Scope) {
			for i := range 45 {
				s.Vars = append(s.Vars, api.Var{Name: "more" + strconv.Itoa(i), Kind: api.Label})
			}
		},
	} {
		p := problem(t, append(slices.Clone(sampleLines), "leq k xk yk", "lacks rk f")...)
		change(&p.Scope)
		if holds.Right(p) != (i == 0) || modelRight(p) != (i == 0) {
			t.Fatal(i)
		}
		p.Asserts = nil
		if holds.Right(p) != (i == 0) {
			t.Fatal(i)
		}
	}
	if !holds.Right(api.Problem{}) {
		t.Fatal("empty")
	}
	if holds.Right(api.Problem{Asserts: []api.Assert{{}}}) {
		t.Fatal("zero assertion")
	}
}

func TestRightNumber(t *testing.T) {
	p := problem(t, append(slices.Clone(sampleLines), "leq k xk yk")...)
	one := p.Asserts
	for _, n := range []int{0, 1, 2, 63, 64, 65, 66, 128, 256, 1000, 1<<16 + 1} {
		p.Asserts = slices.Repeat(one, n)
		if holds.Right(p) != (n <= 64) {
			t.Fatal(n)
		}
	}
}

// TestRightAsserts has one assertion that does not fit, at any place.
func TestRightAsserts(t *testing.T) {
	p := problem(t, append(slices.Clone(sampleLines), "leq k +(xk,#hi) yk", "leq t xt #top", "roweq k rk [f=xk,g=#lo|sk]", "lacks rk f", "lacks rt g")...)
	for i := range p.Asserts {
		for j, change := range []func(a *api.Assert){
			func(a *api.Assert) { a.Op = 0 },
			func(a *api.Assert) { a.Op = api.OpWhy },
			func(a *api.Assert) { a.Lat = 9 },
			func(a *api.Assert) { a.Lat = -1 },
			func(a *api.Assert) { a.Lat = 1 },
			func(a *api.Assert) { a.Code, a.A, a.Field = nil, row(-1, field("f", variable(4))), "F" },
			func(a *api.Assert) { a.To, a.B, a.Var = variable(4), row(0), 0 },
			func(a *api.Assert) { a.To, a.B, a.Var = constant(2), row(-1, field("f", constant(2))), 99 },
		} {
			q := p
			q.Asserts = slices.Clone(p.Asserts)
			if change(&q.Asserts[i]); holds.Right(q) || modelRight(q) {
				t.Fatal(i, j)
			}
		}
	}
	if !holds.Right(p) {
		t.Fatal("all fit")
	}
}

// P19.4: the meets.

// TestMeets draws valid problems and assignments, and compares each two of those that satisfy all assertions.
func TestMeets(t *testing.T) {
	next := mixed()
	pairs := 0
	for lat := range constants() {
		d := drawn{next: next, lat: lat}
		for range 60 {
			lines := slices.Clone(sampleLines)
			for range 1 + next(3) {
				lines = append(lines, d.line())
			}
			p := problem(t, lines...)
			var l []api.Assign
			for _, a := range valid(p.Scope, next, 60) {
				if len(l) < 15 && holds.All(p, a) {
					l = append(l, a)
				}
			}
			for i, a := range l {
				for _, b := range l[:i] {
					if pairs++; !holds.All(p, assign.Meet(a, b)) {
						t.Fatal(lines, a, b)
					}
				}
			}
		}
	}
	if pairs < 1000 {
		t.Fatal(pairs)
	}
}

// small returns all assignments of a scope with a label x, a label y, a row r and a row s of one lattice, the rows of which have no field but f.
func small(elems []api.Elem) []api.Assign {
	rows := [][]api.Value{nil}
	for _, e := range elems {
		rows = append(rows, []api.Value{{Name: "f", Elem: e}})
	}
	var l []api.Assign
	for _, x := range elems {
		for _, y := range elems {
			for _, r := range rows {
				for _, s := range rows {
					l = append(l, api.Assign{Labels: []api.Elem{x, y, {}, {}}, Rows: [][]api.Value{nil, nil, r, s}})
				}
			}
		}
	}
	return l
}

// TestLeastSolution compares all assignments of small scopes: if some satisfy all assertions, their meet does so, and is the least of them.
func TestLeastSolution(t *testing.T) {
	next := mixed()
	elems := map[string][]api.Elem{"k": {elem(), elem(1), elem(3)}, "t": {elem(1), elem(3), elem(5), elem(9), elem(31)}}
	solved, unsolved := 0, 0
	for lat, some := range elems {
		declared := append(slices.Clone(sampleLines[:5]), "label "+lat+" {x"+lat+",y"+lat+"}", "row "+lat+" {r"+lat+",s"+lat+"}")
		d := drawn{next: next, lat: lat}
		all := small(some)
		for range 80 {
			lines := slices.Clone(declared)
			for range 1 + next(5) {
				lines = append(lines, d.line())
			}
			p := problem(t, lines...)
			var least api.Assign
			found := 0
			for _, a := range all {
				if !holds.All(p, a) {
					continue
				}
				if found++; found == 1 {
					least = a
				}
				least = assign.Meet(least, a)
			}
			if found == 0 {
				unsolved++
				continue
			}
			if solved++; !holds.All(p, least) {
				t.Fatal(lines, least)
			}
		}
	}
	if solved < 20 || unsolved < 20 {
		t.Fatal(solved, unsolved)
	}
}

// The examples.

func TestExample(t *testing.T) {
	p := problem(t, "chain k {lo,hi}", "row k {r}", "roweq k [f=#hi] r")
	a := api.Assign{Labels: make([]api.Elem, 1), Rows: [][]api.Value{{value("f", 1)}}}
	l, isL := holds.Row(p.Asserts[0].A, a)
	r, isR := holds.Row(p.Asserts[0].B, a)
	if !isL || !isR || !slices.Equal(l, r) || !holds.All(p, a) {
		t.Fatal(l, r)
	}
}

// TestExamplesOfWhole has examples of the whole document: which assignments are solutions.
func TestExamplesOfWhole(t *testing.T) {
	p := problem(t, "chain k {lo,hi}", "label k {x,y}", "leq k #hi x", "leq k x y")
	for i, want := range []int{0, 0, 1, -1} {
		a := api.Assign{Labels: []api.Elem{elem(uint64(i / 2)), elem(uint64(i % 2))}, Rows: make([][]api.Value, 2)}
		if holds.First(p, a) != want || holds.All(p, a) != (want < 0) {
			t.Fatal(i)
		}
	}
	p = problem(t, "chain k {lo,hi}", "row k {r,s}", "label k {x,y}", "roweq k [f=x|r] [g=y|s]")
	a := api.Assign{Labels: make([]api.Elem, 4), Rows: [][]api.Value{{value("g")}, {value("f")}, nil, nil}}
	if !holds.All(p, a) || holds.All(p, assign.Least(p.Scope)) {
		t.Fatal(a)
	}
}

// P1: every call returns, whatever its arguments are.

func TestAnyArguments(t *testing.T) {
	numbers := append([]int{0, 1, 8, 9, 10}, odd...)
	s := problem(t, sampleLines...).Scope
	s.Lats = append(s.Lats, api.Lat{Shape: api.Shape{Factors: []api.Factor{{Kind: api.Table, Rel: api.Rel{N: math.MaxInt}}, {Kind: -1, Rel: api.Rel{N: math.MinInt}}}}})
	for _, op := range numbers {
		for _, n := range numbers {
			x := api.Assert{Op: op, Lat: n, Code: []api.Ins{{Op: 1, N: n}, pushed(math.MaxUint64), {Op: 3, N: n}}, To: variable(n), A: row(n, field("", variable(n))), B: row(n), Var: n}
			for _, a := range anyhow() {
				for _, s := range []api.Scope{{}, s} {
					checkOne(t, s, x, a)
					p := api.Problem{Scope: s, Asserts: []api.Assert{x, {}, x}}
					checkProblem(t, p, a)
					if holds.Right(p) {
						t.Fatal(x)
					}
				}
			}
		}
	}
}

// The memory.

// spare returns a copy of l with memory beyond its length, all of which is filled with x, and this memory.
func spare[T any](l []T, x T) ([]T, []T) {
	long := append(slices.Clone(l), x, x, x)
	return long[:len(l)], long[len(l):]
}

// TestBeyond has lists with memory beyond their lengths.
func TestBeyond(t *testing.T) {
	p := problem(t, append(slices.Clone(sampleLines), "leq k +(xk,#mid) yk", "roweq k [f=xk,g=#lo|rk] sk")...)
	for _, a := range valid(p.Scope, mixed(), 30) {
		b := a
		labels, moreLabels := spare(a.Labels, elem(math.MaxUint64))
		rows, moreRows := spare(a.Rows, []api.Value{value("q", 9)})
		last, moreLast := spare(a.Rows[2], value("aa", 9))
		rows[2] = last
		b.Labels, b.Rows = labels, rows
		q := api.Problem{Scope: p.Scope}
		x, y := p.Asserts[0], p.Asserts[1]
		var moreCode []api.Ins
		var moreFields []api.Field
		x.Code, moreCode = spare(x.Code, push(99))
		y.A.Fields, moreFields = spare(y.A.Fields, field("f", constant(9)))
		asserts, moreAsserts := spare([]api.Assert{x, y}, api.Assert{})
		q.Asserts = asserts
		l, is := holds.Row(y.A, b)
		want, has := holds.Row(p.Asserts[1].A, a)
		if !slices.Equal(l, want) || is != has || holds.First(q, b) != holds.First(p, a) || holds.All(q, b) != holds.All(p, a) || !holds.Right(q) {
			t.Fatal(l, want)
		}
		if len(l) > 0 {
			_ = append(l, value("scribble", 7))
		}
		for i := range 3 {
			if moreLabels[i] != elem(math.MaxUint64) || moreLast[i] != value("aa", 9) || !slices.Equal(moreRows[i], []api.Value{value("q", 9)}) {
				t.Fatal(i)
			}
			if moreCode[i] != push(99) || moreFields[i] != field("f", constant(9)) || !reflect.DeepEqual(moreAsserts[i], api.Assert{}) {
				t.Fatal(i)
			}
		}
		// Numbers of what lies beyond the length are those of nothing.
		if _, is := holds.Row(row(len(b.Rows)), b); is {
			t.Fatal("a row beyond the length")
		}
		if _, is := holds.Row(row(-1, field("f", variable(len(b.Labels)))), b); is {
			t.Fatal("a label beyond the length")
		}
		if holds.One(p.Scope, lacks(len(b.Rows), "z"), b) || holds.One(p.Scope, leq(0, variable(len(b.Labels)), pushed()), b) {
			t.Fatal("beyond the length")
		}
	}
}

// TestArguments calls all functions: none of them changes what it is passed.
func TestArguments(t *testing.T) {
	made := func() api.Problem {
		return problem(t, append(slices.Clone(sampleLines), "leq t +(xt,&(#a,yt),#b) yt", "roweq k [h=xk,f=xk,g=#lo|rk] sk", "roweq t [h=#b,f=xt] rt", "lacks rk f")...)
	}
	p, same := made(), made()
	for _, a := range append(valid(p.Scope, mixed(), 30), anyhow()...) {
		b := whole(a)
		holds.Right(p)
		holds.All(p, b)
		holds.First(p, b)
		for _, x := range p.Asserts {
			holds.One(p.Scope, x, b)
			holds.Row(x.A, b)
			holds.Row(x.B, b)
		}
		if !reflect.DeepEqual(b, whole(a)) || !reflect.DeepEqual(p, same) {
			t.Fatal(a)
		}
	}
}

// TestResults overwrites results: they are neither the arguments' memory nor that of other results.
func TestResults(t *testing.T) {
	for _, a := range append(valid(problem(t, sampleLines...).Scope, mixed(), 30), anyhow()...) {
		for i := range a.Rows {
			for _, x := range []api.RowTerm{row(i), row(i, field("a", constant(1))), row(-1, field("a", constant(1)))} {
				b := whole(a)
				l, _ := holds.Row(x, b)
				other, _ := holds.Row(x, b)
				kept := slices.Clone(l)
				for j := range other {
					other[j] = value("scribble", 77)
				}
				_ = append(other, value("scribble", 77))
				if !reflect.DeepEqual(b, whole(a)) || !slices.Equal(l, kept) {
					t.Fatal(x, b)
				}
				for _, r := range b.Rows {
					for j := range r {
						r[j] = value("scribble", 77)
					}
				}
				if !slices.Equal(l, kept) {
					t.Fatal(x, l)
				}
			}
		}
	}
}

// TestAgain calls Row and First repeatedly: the results do not depend on the order in which a map is processed.
func TestAgain(t *testing.T) {
	var l []api.Field
	for i := range 40 {
		l = append(l, field("f"+strconv.Itoa(i*7%40), constant(uint64(i))))
	}
	first, _ := holds.Row(row(-1, l...), api.Assign{})
	for range 50 {
		again, is := holds.Row(row(-1, l...), api.Assign{})
		if !is || !slices.Equal(first, again) {
			t.Fatal(again)
		}
	}
}

// Long lists, none of which may take more than a moment.

// many is a number of items for which a search through all of them for each one would take too long.
const many = 1 << 18

func TestLongRows(t *testing.T) {
	var l, back []api.Value
	var fields []api.Field
	for i := range many {
		n := strconv.Itoa(many + i)
		l = append(l, value("f"+n, 1))
		fields = append(fields, field("g"+n, variable(0)))
	}
	for _, v := range slices.Backward(l) {
		back = append(back, v)
	}
	a := api.Assign{Labels: []api.Elem{elem(3)}, Rows: [][]api.Value{l, back, nil}}
	r, is := holds.Row(row(1, fields...), a)
	if !is || len(r) != 2*many || !slices.Equal(r[:many], l) || r[2*many-1] != value("g524287", 3) {
		t.Fatal(len(r), is)
	}
	if _, is := holds.Row(row(1, append(fields, field("f262144", variable(0)))...), a); is {
		t.Fatal("a field twice")
	}
	if !holds.One(api.Scope{}, roweq(row(0, fields...), row(1, fields...)), a) || holds.One(api.Scope{}, roweq(row(0, fields...), row(1)), a) {
		t.Fatal("rows")
	}
	if !holds.One(api.Scope{}, lacks(0, "f"), a) || holds.One(api.Scope{}, lacks(0, "f524287"), a) {
		t.Fatal("lacks")
	}
}

func TestLongProblems(t *testing.T) {
	p := problem(t, append(slices.Clone(sampleLines), "leq t +(xt,#b) yt", "roweq t [h=xt,f=xt,g=#b|rt] st", "lacks rt f")...)
	a := assign.Least(p.Scope)
	a.Labels[13] = elem(5)
	a.Rows[15] = []api.Value{value("f", 1), value("g", 5), value("h", 1)}
	if !holds.All(p, a) {
		t.Fatal(holds.First(p, a))
	}
	p.Asserts = slices.Repeat(p.Asserts, many/3)
	if first := holds.First(p, a); first != -1 || !holds.All(p, a) || holds.Right(p) {
		t.Fatal(first)
	}
	p.Asserts = append(p.Asserts, api.Assert{})
	if first := holds.First(p, a); first != len(p.Asserts)-1 || holds.All(p, a) {
		t.Fatal(first)
	}
	x := leq(0, variable(0), pushed(1))
	for range many {
		x.Code = append(x.Code, push(0))
	}
	x.Code = append(x.Code, join(many+1))
	a.Labels[0] = elem(1)
	if !holds.One(p.Scope, x, a) || holds.One(p.Scope, x, assign.Least(p.Scope)) {
		t.Fatal("long code")
	}
}

// TestLongScopes has long scopes and assignments.
func TestLongScopes(t *testing.T) {
	s := problem(t, "chain k {lo,hi}", "label k {x}", "row k {r}").Scope
	s.Vars = slices.Repeat(s.Vars, many)
	a := assign.Least(s)
	p := api.Problem{Scope: s, Asserts: []api.Assert{leq(0, variable(2*many-2), push(0)), lacks(2*many-1, "f"), roweq(row(1), row(2*many-1))}}
	if !holds.All(p, a) || holds.Right(p) {
		t.Fatal(holds.First(p, a))
	}
}

// TestGreatest has as many assertions, fields and variables as there may be, of a lattice with as many factors and points as there may be.
func TestGreatest(t *testing.T) {
	rel := api.Rel{N: 64}
	var names []string
	for i := range 64 {
		names = append(names, "n"+strconv.Itoa(i))
		rel.Up[i] = 1<<i | 1<<63
	}
	rel.Up[0] = math.MaxUint64
	table := api.Factor{Kind: api.Table, Names: names, Rel: rel}
	s := api.Scope{Lats: []api.Lat{{Name: "k", Shape: api.Shape{Tuple: true, Factors: slices.Repeat([]api.Factor{table}, 8)}}}}
	for i := range 32 {
		n := strconv.Itoa(i)
		s.Vars = append(s.Vars, api.Var{Name: "x" + n, Kind: api.Label}, api.Var{Name: "r" + n, Kind: api.Row})
	}
	a := assign.Least(s)
	x := roweq(row(1), row(3))
	top := shape.Top(s.Lats[0].Shape)
	for i := range 16 {
		n := strconv.Itoa(i)
		x.A.Fields, x.B.Fields = append(x.A.Fields, field("f"+n, api.Atom{Var: -1, Const: top})), append(x.B.Fields, field("g"+n, variable(2*i)))
		a.Rows[1], a.Rows[3] = assign.With(a.Rows[1], "g"+n, top), assign.With(a.Rows[3], "f"+n, top)
		a.Labels[2*i] = top
	}
	// Two points that are neither the least nor the greatest one.
	y := leq(0, variable(0), pushed(slices.Repeat([]uint64{3}, 8)...), pushed(slices.Repeat([]uint64{5}, 8)...), join(2))
	p := api.Problem{Scope: s, Asserts: slices.Repeat([]api.Assert{x, lacks(5, "f"), y, x}, 16)}
	if !holds.Right(p) || holds.First(p, a) != -1 || !holds.All(p, a) {
		t.Fatal(holds.First(p, a))
	}
	a.Labels[30] = shape.Bottom(s.Lats[0].Shape)
	if holds.First(p, a) != 0 || holds.All(p, a) {
		t.Fatal(holds.First(p, a))
	}
}
