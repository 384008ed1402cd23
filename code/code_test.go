package code_test

import (
	"math"
	"reflect"
	"slices"
	"strconv"
	"strings"
	"testing"
	"unsafe"

	"clearance/api"
	"clearance/code"
	"clearance/command"
	"clearance/lex"
	"clearance/scope"
	"clearance/shape"
	"clearance/spell"
	"clearance/term"
	"clearance/tree"
)

// deepest is the greatest number of levels for which the document promises anything.
const deepest = 1 << 16

// The instructions, in short.

func v(n int) api.Ins             { return api.Ins{Op: api.PushVar, N: n} }
func c(words ...uint64) api.Ins   { return api.Ins{Op: api.PushConst, Const: elem(words...)} }
func j(n int) api.Ins             { return api.Ins{Op: api.DoJoin, N: n} }
func m(n int) api.Ins             { return api.Ins{Op: api.DoMeet, N: n} }
func list(l ...api.Ins) []api.Ins { return l }

// elem returns the element with these words.
func elem(words ...uint64) api.Elem {
	var e api.Elem
	copy(e[:], words)
	return e
}

// parsed returns the label that text is.
func parsed(t *testing.T, text string) api.Node {
	t.Helper()
	l, f := lex.Read(text)
	if f.Class == 0 {
		var trees []api.Tree
		if trees, f = tree.Read(l); f.Class == 0 {
			var n api.Node
			var next int
			if n, next, f = term.Label(trees, 0, len(text)); f.Class == 0 && next == len(trees) {
				return n
			}
		}
	}
	t.Fatalf("%q is no label: %v", text, f)
	return api.Node{}
}

// declared returns the scope that the lines declare.
func declared(t *testing.T, lines ...string) api.Scope {
	t.Helper()
	var s api.Scope
	for _, line := range lines {
		cmd, f := command.Read(line)
		if f.Class == 0 {
			f = scope.Fault(s, cmd)
		}
		if f.Class != 0 {
			t.Fatalf("%q gives %v", line, f)
		}
		s = scope.Add(s, cmd)
	}
	return s
}

// The numbers of the sample's lattices.
const (
	chain = iota
	power
	grid
	table
	product
)

// sample returns a scope with a lattice of each kind, and variables of all of them: x and y are 0 and 1.
func sample(t *testing.T) api.Scope {
	return declared(t, "chain k {lo,mid,hi}", "power p {a,b}", "grid g {o,q} {o<q}", "table t {bot,a,b,c,top} {bot<a,bot<b,bot<c,a<top,b<top,c<top}", "product w {k,p,g,t}",
		"label k {x,y}", "row k {r}", "label p {u,lo,a}", "label g {o}", "label t {d,e,f}", "row t {s}", "label w {z,zz}")
}

// Labels that parsing need not return.

func variable(text string) api.Node { return api.Node{Kind: api.NodeVar, Text: text} }
func point(text string) api.Node {
	return api.Node{Kind: api.NodeConst, Kids: []api.Node{{Kind: api.NodePoint, Text: text}}}
}
func join(kids ...api.Node) api.Node { return api.Node{Kind: api.NodeJoin, Kids: kids} }
func meet(kids ...api.Node) api.Node { return api.Node{Kind: api.NodeMeet, Kids: kids} }

// repeated returns n times the node.
func repeated(n api.Node, times int) []api.Node { return slices.Repeat([]api.Node{n}, times) }

// mixed returns a function that returns numbers below its argument, in an order that is fixed but mixed.
func mixed() func(n int) int {
	x := uint64(1)
	return func(n int) int {
		x = x*6364136223846793005 + 1442695040888963407
		return int(x>>33) % n
	}
}

// The model follows the definitions word by word.

// modelCompile returns the code of a label, Kid by Kid.
func modelCompile(s api.Scope, lat int, n api.Node) ([]api.Ins, bool) {
	if lat < 0 || lat >= len(s.Lats) || !term.IsLabel(n) {
		return nil, false
	}
	if n.Kind == api.NodeVar {
		for i, x := range s.Vars {
			if x.Name == n.Text {
				return list(v(i)), x.Kind == 1 && x.Lat == lat
			}
		}
		return nil, false
	}
	if n.Kind == api.NodeConst {
		e, f := spell.Elem(s.Lats[lat].Shape, n.Kids[0])
		return list(api.Ins{Op: 2, Const: e}), f == api.Fault{}
	}
	var l []api.Ins
	for _, kid := range n.Kids {
		more, is := modelCompile(s, lat, kid)
		if !is {
			return nil, false
		}
		l = append(l, more...)
	}
	op := 3
	if n.Kind == api.NodeMeet {
		op = 4
	}
	return append(l, api.Ins{Op: op, N: len(n.Kids)}), true
}

// stack is a value, and what is below it.
type stack struct {
	value api.Elem
	below *stack
}

// modelEval executes the instructions one by one; well is false if they are not well-formed, and is whether there is a value.
func modelEval(s api.Shape, l []api.Ins, vals []api.Elem) (e api.Elem, well, is bool) {
	var top *stack
	is = true
	for _, x := range l {
		switch x.Op {
		case 1:
			var e api.Elem
			if x.N >= 0 && x.N < len(vals) {
				e = vals[x.N]
			} else {
				is = false
			}
			top = &stack{e, top}
		case 2:
			top = &stack{x.Const, top}
		case 3, 4:
			if x.N < 1 || top == nil {
				return api.Elem{}, false, false
			}
			value := top.value
			top = top.below
			for n := x.N; n > 1; n-- {
				if top == nil {
					return api.Elem{}, false, false
				}
				if x.Op == 3 {
					value = shape.Join(s, top.value, value)
				} else {
					value = shape.Meet(top.value, value)
				}
				top = top.below
			}
			top = &stack{value, top}
		default:
			return api.Elem{}, false, false
		}
	}
	if top == nil || top.below != nil {
		return api.Elem{}, false, false
	}
	if !is {
		return api.Elem{}, true, false
	}
	return top.value, true, true
}

// modelVars inserts each number at its place, unless it is there.
func modelVars(l []api.Ins) []int {
	var vars []int
	for _, x := range l {
		place := 0
		for place < len(vars) && vars[place] < x.N {
			place++
		}
		if x.Op == 1 && x.N >= 0 && (place == len(vars) || vars[place] != x.N) {
			vars = slices.Insert(vars, place, x.N)
		}
	}
	return vars
}

// value returns the value of a label, computed recursively.
func value(t *testing.T, s api.Scope, lat int, n api.Node, vals []api.Elem) api.Elem {
	t.Helper()
	switch n.Kind {
	case api.NodeVar:
		_, i := scope.Find(s, n.Text)
		return vals[i]
	case api.NodeConst:
		e, f := spell.Elem(s.Lats[lat].Shape, n.Kids[0])
		if f.Class != 0 {
			t.Fatalf("%q gives %v", term.Text(n), f)
		}
		return e
	}
	e := value(t, s, lat, n.Kids[0], vals)
	for _, kid := range n.Kids[1:] {
		if n.Kind == api.NodeJoin {
			e = shape.Join(s.Lats[lat].Shape, e, value(t, s, lat, kid, vals))
		} else {
			e = shape.Meet(e, value(t, s, lat, kid, vals))
		}
	}
	return e
}

// checkCompile compares Compile with the model.
func checkCompile(t *testing.T, s api.Scope, lat int, n api.Node) ([]api.Ins, bool) {
	t.Helper()
	got, is := code.Compile(s, lat, n)
	want, well := modelCompile(s, lat, n)
	if is != well || is && !slices.Equal(got, want) || !is && len(got) > 0 {
		t.Fatalf("in the lattice %d %q has the code %v, %v; want %v, %v", lat, term.Text(n), got, is, want, well)
	}
	return got, is
}

// checkCode compares Right, Vars and Eval with the model.
func checkCode(t *testing.T, s api.Shape, l []api.Ins, vals []api.Elem) (api.Elem, bool) {
	t.Helper()
	want, well, is := modelEval(s, l, vals)
	if got := code.Right(l); got != well {
		t.Fatalf("that %v is well-formed is %v", l, got)
	}
	if got := code.Vars(l); !slices.Equal(got, modelVars(l)) {
		t.Fatalf("%v has the variables %v", l, got)
	}
	got, has := code.Eval(s, l, vals)
	if got != want || has != is {
		t.Fatalf("%v with %v has the value %v, %v; want %v, %v", l, vals, got, has, want, is)
	}
	return got, has
}

// P14.1: Compile.

func TestCompile(t *testing.T) {
	s := sample(t)
	for _, x := range []struct {
		lat  int
		text string
		want []api.Ins
	}{
		{chain, "x", list(v(0))}, {chain, "y", list(v(1))}, {power, "u", list(v(3))}, {grid, "o", list(v(6))}, {table, "f", list(v(9))}, {product, "zz", list(v(12))},
		{chain, "#lo", list(c())}, {chain, "#mid", list(c(1))}, {chain, "#hi", list(c(3))},
		{power, "#{}", list(c())}, {power, "#{b}", list(c(2))}, {power, "#{b,a,b}", list(c(3))},
		{grid, "#[]", list(c())}, {grid, "#[o:{q}]", list(c(1))}, {grid, "#[q:{o}]", list(c())},
		{table, "#bot", list(c(1))}, {table, "#a", list(c(3))}, {table, "#top", list(c(31))},
		{product, "#(hi,{a},[],c)", list(c(3, 1, 0, 9))}, {product, "#(lo,{},[o:{q}],bot)", list(c(0, 0, 1, 1))},
		{chain, "+(x)", list(v(0), j(1))}, {chain, "&(x)", list(v(0), m(1))}, {chain, "+(#hi)", list(c(3), j(1))},
		{chain, "+(x,#hi)", list(v(0), c(3), j(2))}, {chain, "&(#hi,x)", list(c(3), v(0), m(2))}, {chain, "+(y,x,y,x)", list(v(1), v(0), v(1), v(0), j(4))},
		{power, "+(lo,a,u)", list(v(4), v(5), v(3), j(3))}, {power, "+(#{a},a)", list(c(1), v(5), j(2))},
		{table, "&(d,#a,#b)", list(v(7), c(3), c(5), m(3))},
		{chain, "+(+(+(x)))", list(v(0), j(1), j(1), j(1))}, {chain, "&(+(&(x)))", list(v(0), m(1), j(1), m(1))},
		{chain, "+(&(x,y),#mid)", list(v(0), v(1), m(2), c(1), j(2))}, {chain, "+(#mid,&(x,y))", list(c(1), v(0), v(1), m(2), j(2))},
		{chain, "&(+(x,y),+(y,#lo,x))", list(v(0), v(1), j(2), v(1), c(), v(0), j(3), m(2))},
		{chain, "+(x,&(y,+(#mid,&(x,y))),y,&(#hi))", list(v(0), v(1), c(1), v(0), v(1), m(2), j(2), m(2), v(1), c(3), m(1), j(4))},
		{product, "+(z,&(zz,#(mid,{b},[],top)))", list(v(11), v(12), c(1, 2, 0, 31), m(2), j(2))},
	} {
		n := parsed(t, x.text)
		got, is := code.Compile(s, x.lat, n)
		if !is || !slices.Equal(got, x.want) {
			t.Errorf("%q has the code %v, %v; want %v", x.text, got, is, x.want)
		}
		checkCompile(t, s, x.lat, n)
	}
}

func TestExample1(t *testing.T) {
	s := sample(t)
	got, is := code.Compile(s, chain, parsed(t, "+(x,#hi)"))
	if !is || len(got) != 3 || got[0].Op != api.PushVar || got[1].Op != api.PushConst || got[2].Op != api.DoJoin || got[2].N != 2 {
		t.Error(got, is)
	}
}

func TestNoLattice(t *testing.T) {
	s := sample(t)
	for _, lat := range []int{-1, -2, 5, 6, 16, 64, math.MinInt, math.MaxInt} {
		for _, text := range []string{"x", "#lo", "+(x,#lo)"} {
			if _, is := checkCompile(t, s, lat, parsed(t, text)); is {
				t.Errorf("in the lattice %d %q has code", lat, text)
			}
			if _, is := checkCompile(t, api.Scope{Vars: s.Vars}, lat, parsed(t, text)); is {
				t.Errorf("without lattices %q has code", text)
			}
		}
	}
	// What is beyond the length is no lattice.
	if l, is := code.Compile(api.Scope{Lats: s.Lats[:4], Vars: s.Vars}, product, parsed(t, "z")); is || len(l) > 0 {
		t.Error("a lattice beyond the length counts")
	}
	if l, is := code.Compile(api.Scope{}, 0, parsed(t, "x")); is || len(l) > 0 {
		t.Error("in the empty scope there is code")
	}
}

func TestVariablesOfOtherLatticesAndKinds(t *testing.T) {
	s := sample(t)
	for _, x := range []struct {
		lat  int
		text string
	}{
		{chain, "u"}, {chain, "o"}, {chain, "d"}, {chain, "z"}, {power, "x"}, {grid, "y"}, {table, "x"}, {product, "x"}, {product, "u"},
		{chain, "r"}, {table, "s"}, {power, "r"}, {table, "r"},
		{chain, "k"}, {power, "p"}, {chain, "hi"}, {power, "b"}, {chain, "none"}, {chain, "xx"},
		{chain, "+(x,u)"}, {chain, "+(u,x)"}, {chain, "+(x,y,r)"}, {chain, "&(x,+(y,none))"}, {chain, "+(&(+(none)),x)"}, {chain, "+(#lo,u)"}, {chain, "+(x,x,x,lo)"}, {chain, "+(#lo,lo)"},
	} {
		if l, is := checkCompile(t, s, x.lat, parsed(t, x.text)); is || len(l) > 0 {
			t.Errorf("in the lattice %d %q has the code %v", x.lat, x.text, l)
		}
	}
}

func TestConstantsOfOtherLattices(t *testing.T) {
	s := sample(t)
	for _, x := range []struct {
		lat  int
		text string
	}{
		{chain, "#none"}, {chain, "#x"}, {chain, "#{lo}"}, {chain, "#(lo)"}, {chain, "#[]"}, {power, "#a"}, {power, "#{a,c}"}, {power, "#{lo}"}, {grid, "#{}"}, {grid, "#[x:{}]"}, {grid, "#[o:{x}]"},
		{table, "#lo"}, {table, "#{a}"}, {product, "#(lo,{},[])"}, {product, "#(lo,{},[],bot,bot)"}, {product, "#({},lo,[],bot)"}, {product, "#lo"}, {product, "#(lo,{},[],hi)"},
		{chain, "+(#lo,#none)"}, {chain, "&(x,+(#none,y))"}, {chain, "+(#lo,#hi,#lo,#a)"}, {chain, "+(x,#x)"},
	} {
		if l, is := checkCompile(t, s, x.lat, parsed(t, x.text)); is || len(l) > 0 {
			t.Errorf("in the lattice %d %q has the code %v", x.lat, x.text, l)
		}
	}
}

// A variable and a constant of the same name have nothing to do with each other.
func TestVariablesAndConstantsOfOneName(t *testing.T) {
	s := declared(t, "chain k {x,y}", "label k {y,x}")
	for text, want := range map[string][]api.Ins{
		"+(x,#x,y,#y)":       list(v(1), c(), v(0), c(1), j(4)),
		"+(#y,y,#x,x)":       list(c(1), v(0), c(), v(1), j(4)),
		"&(#y,#y,y,y,#y,y)":  list(c(1), c(1), v(0), v(0), c(1), v(0), m(6)),
		"+(x,&(x,#x),x,#x)":  list(v(1), v(1), c(), m(2), v(1), c(), j(4)),
		"+(#x,+(#x),&(#x))":  list(c(), c(), j(1), c(), m(1), j(3)),
		"&(+(x),+(x),+(#x))": list(v(1), j(1), v(1), j(1), c(), j(1), m(3)),
	} {
		if got, is := code.Compile(s, 0, parsed(t, text)); !is || !slices.Equal(got, want) {
			t.Errorf("%q has the code %v, want %v", text, got, want)
		}
	}
}

func TestNodesThatAreNoLabels(t *testing.T) {
	s := sample(t)
	// These names are live, but could not be parsed.
	for _, text := range []string{"", "A", "1", "a b", "abcdefghijklmnopq"} {
		s.Vars = append(s.Vars, api.Var{Name: text, Kind: api.Label})
		if l, is := checkCompile(t, s, chain, variable(text)); is {
			t.Errorf("the variable %q has the code %v", text, l)
		}
	}
	x, lo, words := variable("x"), point("lo"), []api.Word{{Text: "x"}}
	for what, n := range map[string]api.Node{
		"the zero node": {}, "a point": lo.Kids[0], "a set": {Kind: api.NodeSet}, "a tuple": {Kind: api.NodeTuple, Kids: []api.Node{lo.Kids[0]}}, "a constant of a grid": {Kind: api.NodeGrid},
		"a rule": {Kind: api.NodeRule, Text: "x"}, "a row": {Kind: api.NodeRow}, "a row with a variable": {Kind: api.NodeRow, Names: words}, "a field": {Kind: api.NodeField, Text: "f", Kids: []api.Node{x}},
		"a kind of no node": {Kind: 12, Text: "x"}, "a negative kind": {Kind: -1, Text: "x"}, "a kind far away": {Kind: math.MaxInt, Kids: []api.Node{x}},
		"a join of nothing": join(), "a meet of nothing": meet(), "a join with a text": {Kind: api.NodeJoin, Text: "x", Kids: []api.Node{x}}, "a meet with names": {Kind: api.NodeMeet, Names: words, Kids: []api.Node{x}},
		"a variable with Kids": {Kind: api.NodeVar, Text: "x", Kids: []api.Node{x}}, "a variable with names": {Kind: api.NodeVar, Text: "x", Names: words},
		"a constant without Kids": {Kind: api.NodeConst}, "a constant with two Kids": {Kind: api.NodeConst, Kids: []api.Node{lo.Kids[0], lo.Kids[0]}}, "a constant with a text": {Kind: api.NodeConst, Text: "x", Kids: lo.Kids},
		"a constant with names": {Kind: api.NodeConst, Names: words, Kids: lo.Kids}, "a constant of a variable": {Kind: api.NodeConst, Kids: []api.Node{x}}, "a constant of a constant": {Kind: api.NodeConst, Kids: []api.Node{lo}},
		"a constant of a join": {Kind: api.NodeConst, Kids: []api.Node{join(x)}}, "a point with a Kid": {Kind: api.NodeConst, Kids: []api.Node{{Kind: api.NodePoint, Text: "lo", Kids: []api.Node{x}}}},
	} {
		for _, n := range []api.Node{n, join(n), meet(x, n), join(n, x), meet(x, join(lo, meet(n)), x)} {
			if l, is := checkCompile(t, s, chain, n); is || len(l) > 0 {
				t.Errorf("%s: %q has the code %v", what, term.Text(n), l)
			}
		}
	}
	if l, is := code.Compile(s, chain, join(x, lo)); !is || !slices.Equal(l, list(v(0), c(), j(2))) {
		t.Error("a join of the right ones has the code", l)
	}
}

// Only the names and the lattices count of a scope that is not valid.
func TestScopesThatAreNotValid(t *testing.T) {
	s := sample(t)
	s.Lats = append(s.Lats, api.Lat{Name: "none"}, api.Lat{Name: "k", Shape: s.Lats[chain].Shape}, s.Lats[chain])
	broken, twice, last := 5, 6, 7
	s.Lats[twice].Shape.Factors = slices.Repeat(s.Lats[chain].Shape.Factors, 2)
	first := len(s.Vars)
	s.Vars = append(s.Vars,
		api.Var{Name: "bb", Kind: api.Label, Lat: broken}, api.Var{Name: "x", Kind: api.Label, Lat: last}, api.Var{Name: "k", Kind: api.Label, Lat: last},
		api.Var{Name: "h", Kind: api.Row, Lat: last}, api.Var{Name: "h", Kind: api.Label, Lat: last},
		api.Var{Name: "i", Kind: api.Label, Lat: last}, api.Var{Name: "i", Kind: api.Row, Lat: last},
		api.Var{Name: "q0", Kind: 0, Lat: last}, api.Var{Name: "q3", Kind: 3, Lat: last}, api.Var{Name: "q4", Kind: -1, Lat: last}, api.Var{Name: "q5", Kind: api.Label, Lat: -1}, api.Var{Name: "q6", Kind: api.Label, Lat: 99})
	for _, x := range []struct {
		lat  int
		text string
		want []api.Ins
	}{
		{broken, "bb", list(v(first))}, {broken, "+(bb,bb)", list(v(first), v(first), j(2))}, {broken, "#lo", nil}, {broken, "+(bb,#lo)", nil}, {broken, "#{}", nil},
		{twice, "#lo", nil}, {twice, "#(lo,lo)", nil}, {twice, "x", nil},
		{last, "x", nil}, {last, "k", list(v(first + 2))}, {chain, "k", nil}, {last, "h", nil}, {last, "i", list(v(first + 5))}, {last, "+(k,i,#mid)", list(v(first+2), v(first+5), c(1), j(3))},
		{last, "q0", nil}, {last, "q3", nil}, {last, "q4", nil}, {last, "q5", nil}, {last, "q6", nil},
	} {
		got, is := checkCompile(t, s, x.lat, parsed(t, x.text))
		if is != (x.want != nil) || !slices.Equal(got, x.want) {
			t.Errorf("in the lattice %d %q has the code %v, want %v", x.lat, x.text, got, x.want)
		}
	}
	// A variable needs no lattice but its own.
	only := api.Scope{Lats: make([]api.Lat, 100), Vars: make([]api.Var, 1000)}
	only.Vars[999] = api.Var{Name: "x", Kind: api.Label, Lat: 99}
	if got, is := code.Compile(only, 99, parsed(t, "&(x,x)")); !is || !slices.Equal(got, list(v(999), v(999), m(2))) {
		t.Error(got, is)
	}
	// What is beyond the length is no variable.
	only.Vars = only.Vars[:999]
	if got, is := code.Compile(only, 99, parsed(t, "x")); is || len(got) > 0 {
		t.Error("a variable beyond the length counts")
	}
}

// drawer draws labels of a scope, whose elements it has, by the numbers of the lattices.
type drawer struct {
	next  func(n int) int
	scope api.Scope
	elems [][]api.Elem
}

// drawing returns a drawer for the scope.
func drawing(s api.Scope) drawer {
	d := drawer{next: mixed(), scope: s}
	for _, l := range s.Lats {
		d.elems = append(d.elems, elements(l.Shape))
	}
	return d
}

// elem returns an element of the lattice.
func (d drawer) elem(lat int) api.Elem {
	return d.elems[lat][d.next(len(d.elems[lat]))]
}

// label returns a label of the lattice with at most so many levels; one in so many of its atoms is wrong, if that is not 0.
func (d drawer) label(lat, levels, wrong int) api.Node {
	if levels > 0 && d.next(4) > 0 {
		n := api.Node{Kind: api.NodeJoin + d.next(2), At: d.next(50) - 5}
		for range 1 + d.next(4) {
			n.Kids = append(n.Kids, d.label(lat, levels-1, wrong))
		}
		return n
	}
	if wrong > 0 && d.next(wrong) == 0 {
		return []api.Node{variable("r"), variable("none"), point("none"), {}, join(), {Kind: api.NodeRow}, variable("s"), variable("z"), variable("x")}[d.next(9)]
	}
	if d.next(2) == 0 {
		return api.Node{Kind: api.NodeConst, At: d.next(50) - 5, Kids: []api.Node{spell.Node(d.scope.Lats[lat].Shape, d.elem(lat))}}
	}
	var own []string
	for _, x := range d.scope.Vars {
		if x.Kind == api.Label && x.Lat == lat {
			own = append(own, x.Name)
		}
	}
	return variable(own[d.next(len(own))])
}

// elements returns the elements of a shape of few elements, or some of those of a product.
func elements(s api.Shape) []api.Elem {
	var l []api.Elem
	if !s.Tuple {
		for w := range uint64(1 << 10) {
			if shape.Fits(s, elem(w)) {
				l = append(l, elem(w))
			}
		}
		return l
	}
	for i := range 20 {
		var e api.Elem
		for k, f := range s.Factors {
			all := elements(api.Shape{Factors: []api.Factor{f}})
			e[k] = all[i*(k+1)%len(all)][0]
		}
		l = append(l, e)
	}
	return l
}

func TestCompileDrawnLabels(t *testing.T) {
	d := drawing(sample(t))
	right, wrong := 0, 0
	for i := range 4000 {
		lat := d.next(6) - i%50/49
		n := d.label(min(max(lat, 0), 4), 1+d.next(4), 8)
		if _, is := checkCompile(t, d.scope, lat, n); is {
			right++
		} else {
			wrong++
		}
	}
	if right < 500 || wrong < 500 {
		t.Error("too few of a kind:", right, wrong)
	}
}

// nested returns a label that contains x at a depth of so many levels, and its code; at each level stands another one before or after it.
func nested(levels int, x api.Node) (api.Node, []api.Ins) {
	n, l := x, list(v(0))
	var after []api.Ins
	before := []api.Ins{}
	for i := range levels {
		switch i % 4 {
		case 0:
			n, after = join(n), append(after, j(1))
		case 1:
			n, after = meet(n, x), append(after, v(0), m(2))
		case 2:
			n, before, after = join(x, n), append(before, v(0)), append(after, j(2))
		case 3:
			n, before, after = meet(x, n, x), append(before, v(0)), append(after, v(0), m(3))
		}
	}
	return n, slices.Concat(before, l, after)
}

func TestDeepLabels(t *testing.T) {
	s := sample(t)
	x := variable("x")
	// A node has a level of its own.
	for _, levels := range []int{1, 2, 3, 4, 23, 24, 25, 1000, deepest - 1} {
		n, want := nested(levels, x)
		got, is := code.Compile(s, chain, n)
		if !is || !slices.Equal(got, want) {
			t.Fatalf("%d levels: %d instructions, want %d", levels, len(got), len(want))
		}
		if !code.Right(got) || !slices.Equal(code.Vars(got), []int{0}) {
			t.Fatalf("%d levels: not well-formed", levels)
		}
		if e, is := code.Eval(s.Lats[chain].Shape, got, []api.Elem{elem(1)}); !is || e != elem(1) {
			t.Fatalf("%d levels: the value %v", levels, e)
		}
		if n, _ = nested(levels, variable("u")); levels > 1 {
			if got, is = code.Compile(s, chain, n); is || len(got) > 0 {
				t.Fatalf("%d levels: a variable of another lattice", levels)
			}
		}
	}
	deep := api.Node{Kind: api.NodePoint, Text: "lo"}
	for range deepest - 10 {
		deep = api.Node{Kind: api.NodeTuple, Kids: []api.Node{deep}}
	}
	if got, is := code.Compile(s, chain, join(x, api.Node{Kind: api.NodeConst, Kids: []api.Node{deep}})); is || len(got) > 0 {
		t.Error("a deep constant is one of a chain")
	}
}

func TestWideLabels(t *testing.T) {
	s := sample(t)
	const n = 1 << 17
	x, a := variable("x"), point("a")
	for what, wide := range map[string]struct {
		lat  int
		node api.Node
		want []api.Ins
	}{
		"variables":           {chain, join(repeated(x, n)...), append(slices.Repeat(list(v(0)), n), j(n))},
		"constants":           {table, meet(repeated(a, n)...), append(slices.Repeat(list(c(3)), n), m(n))},
		"joins of two":        {chain, meet(repeated(join(x, variable("y")), n)...), append(slices.Repeat(list(v(0), v(1), j(2)), n), m(n))},
		"one ahead of a join": {chain, join(append(repeated(x, n), meet(x, x))...), append(slices.Repeat(list(v(0)), n+2), m(2), j(n+1))},
	} {
		got, is := code.Compile(s, wide.lat, wide.node)
		if !is || !slices.Equal(got, wide.want) {
			t.Fatalf("%s: %d instructions", what, len(got))
		}
		if !code.Right(got) {
			t.Fatalf("%s: not well-formed", what)
		}
		if e, is := code.Eval(s.Lats[wide.lat].Shape, got, []api.Elem{elem(1), elem(1)}); !is || e != elem(1) && wide.lat == chain || e != elem(3) && wide.lat == table {
			t.Fatalf("%s: the value %v", what, e)
		}
	}
	wrong := repeated(x, n)
	wrong[n-1] = variable("u")
	if got, is := code.Compile(s, chain, join(wrong...)); is || len(got) > 0 {
		t.Error("the last one of many is of another lattice")
	}
}

// A label nested at many places costs as much as its length: nothing is copied anew at each.
func TestManyDeepPlaces(t *testing.T) {
	s := sample(t)
	x := variable("x")
	n := join(repeated(meet(x, x), 1<<16)...)
	for range 1 << 15 {
		n = join(x, n)
	}
	got, is := code.Compile(s, chain, n)
	if !is || len(got) != 3<<16+1+2<<15 {
		t.Fatal(len(got), is)
	}
	if e, is := code.Eval(s.Lats[chain].Shape, got, []api.Elem{elem(3)}); !is || e != elem(3) {
		t.Error(e, is)
	}
}

func TestScopesAtTheLimits(t *testing.T) {
	var lines []string
	for i := range api.MaxLats {
		lines = append(lines, "chain l"+strconv.Itoa(i)+" {a,b}")
	}
	for i := range api.MaxVars {
		lines = append(lines, "label l"+strconv.Itoa(i%api.MaxLats)+" {v"+strconv.Itoa(i)+"}")
	}
	s := declared(t, lines...)
	for i := range api.MaxVars {
		for lat := -1; lat <= api.MaxLats; lat++ {
			got, is := checkCompile(t, s, lat, parsed(t, "+(v"+strconv.Itoa(i)+",#b)"))
			if is != (lat == i%api.MaxLats) || is && !slices.Equal(got, list(v(i), c(1), j(2))) {
				t.Errorf("variable %d in the lattice %d: %v", i, lat, got)
			}
		}
	}
	// As many levels, atoms, points and factors as there may be.
	names := []string{}
	for i := range api.MaxPoints {
		names = append(names, "n"+strconv.Itoa(i))
	}
	all := "{" + strings.Join(names, ",") + "}"
	s = declared(t, "chain k "+all, "power p "+all, "product w {k,p,k,p,k,p,k,p}")
	const half = math.MaxUint64 >> 1
	for i, text := range []string{"#n63", "#" + all, "#(" + strings.Repeat("n63,{n63},", 3) + "n63," + all + ")"} {
		want := []api.Ins{c(half), c(math.MaxUint64), c(half, 1<<63, half, 1<<63, half, 1<<63, half, math.MaxUint64)}[i]
		if got, is := checkCompile(t, s, i, parsed(t, text)); !is || got[0] != want {
			t.Errorf("%q has the code %v", text, got)
		}
	}
}

// P14.2: Right, Vars.

func TestRight(t *testing.T) {
	for _, l := range [][]api.Ins{
		list(v(0)), list(v(-1)), list(v(math.MinInt)), list(v(math.MaxInt)), list(c()), list(c(math.MaxUint64)), list(v(0), j(1)), list(v(0), m(1)), list(c(), j(1), m(1), j(1)),
		list(v(0), v(1), j(2)), list(v(0), c(), m(2)), list(v(0), v(0), v(0), j(2), m(2)), list(v(0), v(0), v(0), j(3)), list(v(0), v(0), j(1), j(2)), list(v(0), j(1), v(0), m(2)), list(c(), c(), j(2), c(), c(), j(2), m(2)),
		{{Op: api.PushVar, Const: elem(7)}}, {{Op: api.PushConst, N: 5}}, {{Op: api.PushConst, N: -5}}, {{Op: api.PushVar}, {Op: api.DoJoin, N: 1, Const: elem(7)}},
	} {
		if !code.Right(l) {
			t.Errorf("%v is not well-formed", l)
		}
		checkCode(t, api.Shape{}, l, []api.Elem{elem(1), elem(2)})
	}
	for _, l := range [][]api.Ins{
		nil, {}, list(j(1)), list(j(0)), list(m(1)), list(v(0), v(0)), list(v(0), c()), list(v(0), v(0), v(0), j(2)), list(v(0), j(2)), list(c(), m(2)), list(v(0), v(0), j(3)), list(v(0), v(0), j(1)),
		list(v(0), j(0)), list(v(0), m(0)), list(v(0), j(-1)), list(v(0), m(-1)), list(v(0), v(0), j(0)), list(v(0), j(math.MaxInt)), list(v(0), m(math.MinInt)), list(v(0), v(0), j(-1), j(2)), list(v(0), v(0), j(0), m(3)),
		list(j(1), v(0)), list(v(0), j(2), v(0)), list(j(2), v(0), v(0)), list(j(-1), v(0)), list(v(0), m(2), c(), c(), j(2)), list(j(0), v(0)),
		{{}}, {{Op: 5}}, {{Op: -1}}, {{Op: math.MaxInt}}, {{Op: math.MinInt}}, {{Op: api.PushVar}, {}}, {{}, {Op: api.PushVar}}, {{Op: api.PushVar}, {Op: 5, N: 1}}, {{Op: 0, N: 1}, {Op: api.PushConst}}, {{Op: api.PushVar}, {Op: api.PushVar}, {Op: 5, N: 2}},
	} {
		if code.Right(l) {
			t.Errorf("%v is well-formed", l)
		}
		checkCode(t, api.Shape{}, l, []api.Elem{elem(1), elem(2)})
	}
}

// every calls do with each code of at most so many of the instructions.
func every(all []api.Ins, most int, do func(l []api.Ins)) {
	var extend func(l []api.Ins)
	extend = func(l []api.Ins) {
		do(l)
		if len(l) < most {
			for _, ins := range all {
				extend(append(l[:len(l):len(l)], ins))
			}
		}
	}
	extend(nil)
}

func TestAllShortCodes(t *testing.T) {
	s := sample(t).Lats[table].Shape
	vals := []api.Elem{elem(3), elem(5)}
	right := 0
	every(list(v(0), v(1), v(2), v(-1), c(9), j(0), j(1), j(2), j(3), m(1), m(2), m(3), m(-1), api.Ins{Op: 5}), 4, func(l []api.Ins) {
		if _, is := checkCode(t, s, l, vals); is {
			right++
		}
	})
	every(list(v(0), c(8), j(2), j(3), m(2), j(1)), 6, func(l []api.Ins) {
		if _, is := checkCode(t, s, l, vals[:1]); is {
			right++
		}
	})
	if right < 500 {
		t.Error("too few have a value:", right)
	}
}

func TestLongCodes(t *testing.T) {
	const n = 1 << 18
	s := sample(t).Lats[chain].Shape
	for what, l := range map[string][]api.Ins{
		"one bound of many": append(slices.Repeat(list(v(0)), n), j(n)),
		"one after another": append(list(v(0)), slices.Repeat(list(v(0), j(2)), n)...),
		"many of one":       append(list(c(1)), slices.Repeat(list(m(1)), n)...),
		"all at the end":    append(slices.Repeat(list(c(1)), n+1), slices.Repeat(list(m(2)), n)...),
		"far above others":  slices.Concat(slices.Repeat(list(v(0)), n), slices.Repeat(list(v(0), v(0), j(2), m(2)), n), list(j(n))),
		"and growing there": slices.Concat(slices.Repeat(list(v(0)), n), slices.Repeat(list(v(0), v(0), j(2)), n), list(j(2*n))),
	} {
		if !code.Right(l) {
			t.Errorf("%s: not well-formed", what)
		}
		if e, is := code.Eval(s, l, []api.Elem{elem(1)}); !is || e != elem(1) {
			t.Errorf("%s: the value %v, %v", what, e, is)
		}
		if code.Right(append(l, c())) || code.Right(l[1:]) {
			t.Errorf("%s: another one is well-formed", what)
		}
		if e, is := code.Eval(s, append(l, c()), []api.Elem{elem(1)}); is || e != elem() {
			t.Errorf("%s: another one has the value %v", what, e)
		}
	}
}

func TestVars(t *testing.T) {
	for _, x := range []struct {
		l    []api.Ins
		want []int
	}{
		{nil, nil}, {list(c()), nil}, {list(v(0)), []int{0}}, {list(v(5)), []int{5}}, {list(v(5), v(3), j(2)), []int{3, 5}}, {list(v(3), v(5), v(3), m(3)), []int{3, 5}}, {list(v(0), v(0), j(2)), []int{0}},
		{list(v(-1)), nil}, {list(v(-1), v(2), v(math.MinInt), v(0)), []int{0, 2}}, {list(v(math.MaxInt), v(0)), []int{0, math.MaxInt}}, {list(v(10), v(9), v(8), v(9), v(10)), []int{8, 9, 10}},
		{list(j(4), m(3), c(1)), nil}, {list(v(1), j(9), v(1), v(7), m(-2)), []int{1, 7}}, {[]api.Ins{{N: 4}, {Op: 5, N: 3}, {Op: -1, N: 2}, {Op: api.PushConst, N: 1}, {Op: api.PushVar, N: 6, Const: elem(8)}}, []int{6}},
	} {
		if got := code.Vars(x.l); !slices.Equal(got, x.want) {
			t.Errorf("%v has the variables %v, want %v", x.l, got, x.want)
		}
	}
	var long []api.Ins
	for i := range 1 << 20 {
		long = append(long, v((i*7919+5)%1000))
	}
	got := code.Vars(long)
	if len(got) != 1000 || !slices.IsSorted(got) || got[0] != 0 || got[999] != 999 {
		t.Error("of a long code there are the variables", got)
	}
}

// P14.3: Eval.

func TestEval(t *testing.T) {
	s := sample(t)
	for _, x := range []struct {
		lat  int
		l    []api.Ins
		vals []api.Elem
		want api.Elem
	}{
		{chain, list(v(0)), []api.Elem{elem(1)}, elem(1)},
		{chain, list(v(1)), []api.Elem{elem(1), elem(3)}, elem(3)},
		{chain, list(c(3)), nil, elem(3)},
		{chain, list(v(0), c(3), j(2)), []api.Elem{elem(1)}, elem(3)},
		{chain, list(v(0), c(3), m(2)), []api.Elem{elem(1)}, elem(1)},
		{power, list(c(1), c(2), j(2)), nil, elem(3)},
		{power, list(c(1), c(2), m(2)), nil, elem()},
		{power, list(c(1), c(2), c(3), m(2), j(2)), nil, elem(3)},
		{power, list(c(1), c(2), j(2), c(1), m(2)), nil, elem(1)},
		{power, list(c(1), c(2), c(2), j(2), m(2)), nil, elem()},
		{power, list(c(3), c(1), c(2), m(3)), nil, elem()},
		{table, list(c(3), c(5), j(2)), nil, elem(31)},
		{table, list(c(3), c(3), j(2)), nil, elem(3)},
		{table, list(c(1), c(9), j(2)), nil, elem(9)},
		{table, list(c(3), c(5), m(2)), nil, elem(1)},
		{table, list(c(3), c(5), c(9), j(3)), nil, elem(31)},
		{grid, list(c(1), c(0x300), j(2)), nil, elem(0x301)},
		{product, list(v(0), v(1), j(2)), []api.Elem{elem(1, 1, 1, 3), elem(3, 2, 0, 5)}, elem(3, 3, 1, 31)},
		{product, list(v(0), v(1), m(2)), []api.Elem{elem(1, 1, 1, 3), elem(3, 2, 0, 5)}, elem(1, 0, 0, 1)},
	} {
		if got, is := checkCode(t, s.Lats[x.lat].Shape, x.l, x.vals); !is || got != x.want {
			t.Errorf("%v with %v has the value %v, want %v", x.l, x.vals, got, x.want)
		}
	}
}

// The value removed first is the last one: with words of no points, for which tables have no joins, the order shows.
func TestOrderOfJoins(t *testing.T) {
	s := sample(t).Lats[table].Shape
	for _, x := range []struct {
		l    []api.Ins
		want uint64
	}{
		{list(c(3), c(5), c(8), j(3)), 15},
		{list(c(8), c(5), c(3), j(3)), 31},
		{list(c(5), c(3), c(8), j(3)), 15},
		{list(c(8), c(3), c(5), j(3)), 31},
		{list(c(3), c(8), c(5), j(3)), 15},
		{list(c(3), c(5), j(2), c(8), j(2)), 31},
		{list(c(3), c(5), c(8), j(2), j(2)), 15},
		{list(c(3), c(5), c(4), c(8), j(4)), 15},
		{list(c(8), c(1), c(5), c(3), j(4)), 31},
		// A single value is its own bound, whatever it is.
		{list(c(8), j(1)), 8}, {list(c(6), m(1)), 6}, {list(c(), j(1)), 0},
	} {
		if got, is := checkCode(t, s, x.l, nil); !is || got != elem(x.want) {
			t.Errorf("%v has the value %v, want %d", x.l, got, x.want)
		}
	}
}

// Eval takes any shape and any elements as they are.
func TestEvalOfAnything(t *testing.T) {
	s := sample(t)
	soiled := api.Shape{Factors: []api.Factor{{Kind: api.Table, Rel: api.Rel{N: -3, Up: [64]uint64{5, 63: math.MaxUint64}}}, {Kind: 9}, {Kind: api.Table, Rel: api.Rel{N: 99, Up: [64]uint64{7, 6, 4}}}}}
	wide := api.Shape{Factors: slices.Repeat(s.Lats[table].Shape.Factors, 100)}
	next := mixed()
	random := func() api.Elem {
		var e api.Elem
		for i := range e {
			e[i] = uint64(next(32))
			if next(8) == 0 {
				e[i] = math.MaxUint64 << next(64)
			}
		}
		return e
	}
	has := 0
	for range 20000 {
		vals := []api.Elem{random(), random(), random()}[:1+next(3)]
		var l []api.Ins
		size := 0
		for range next(12) {
			ins := []api.Ins{v(next(3)), {Op: api.PushConst, Const: random()}, j(1 + next(max(size, 1))), m(1 + next(max(size, 1)))}[next(4)]
			if size += 1; ins.Op > 2 {
				size -= ins.N
			}
			l = append(l, ins)
		}
		if size > 1 && next(4) > 0 {
			l = append(l, j(size))
		}
		if next(20) == 0 && len(l) > 0 {
			l[next(len(l))] = api.Ins{Op: next(7) - 1, N: next(5) - 1}
		}
		for _, s := range []api.Shape{{}, soiled, wide, s.Lats[next(5)].Shape} {
			if _, is := checkCode(t, s, l, vals); is {
				has++
			}
		}
	}
	if has < 5000 {
		t.Error("too few have a value:", has)
	}
}

func TestVariablesWithoutValues(t *testing.T) {
	s := sample(t).Lats[chain].Shape
	vals := []api.Elem{elem(1), elem(3), elem(1)}
	for _, x := range []struct {
		l    []api.Ins
		vals []api.Elem
	}{
		{list(v(0)), nil}, {list(v(0)), vals[:0]}, {list(v(1)), vals[:1]}, {list(v(2)), vals[:2]}, {list(v(3)), vals}, {list(v(-1)), vals}, {list(v(math.MaxInt)), vals}, {list(v(math.MinInt)), vals},
		{list(v(0), v(3), j(2)), vals}, {list(v(3), v(0), m(2)), vals}, {list(c(), v(-1), m(2)), vals}, {list(v(3), j(1)), vals}, {list(c(3), c(), v(5), m(2), j(2)), vals},
	} {
		if !code.Right(x.l) {
			t.Errorf("%v is not well-formed", x.l)
		}
		if e, is := checkCode(t, s, x.l, x.vals); is || e != elem() {
			t.Errorf("%v with %v has the value %v", x.l, x.vals, e)
		}
	}
	for i := range 3 {
		if e, is := checkCode(t, s, list(v(i)), vals); !is || e != vals[i] {
			t.Errorf("variable %d has the value %v", i, e)
		}
	}
}

// P14.4: the laws.

func TestLawsOfCode(t *testing.T) {
	d := drawing(sample(t))
	s := d.scope
	for range 3000 {
		lat := d.next(5)
		own := s.Lats[lat].Shape
		n := d.label(lat, 1+d.next(4), 0)
		l, is := checkCompile(t, s, lat, n)
		if !is || !code.Right(l) {
			t.Fatalf("the code %v of %q is not well-formed", l, term.Text(n))
		}
		if got := code.Vars(l); !slices.Equal(got, varsOf(s, n)) {
			t.Fatalf("%q has the variables %v", term.Text(n), got)
		}
		for range 4 {
			low, high := make([]api.Elem, len(s.Vars)), make([]api.Elem, len(s.Vars))
			for i := range s.Vars {
				low[i] = d.elem(lat)
				high[i] = shape.Join(own, low[i], d.elem(lat))
			}
			a, is := checkCode(t, own, l, low)
			if !is || a != value(t, s, lat, n, low) || !shape.Fits(own, a) {
				t.Fatalf("%q has the value %v with %v", term.Text(n), a, low)
			}
			if b, is := checkCode(t, own, l, high); !is || !shape.Leq(a, b) {
				t.Fatalf("%q has the values %v with %v, and %v with %v", term.Text(n), a, low, b, high)
			}
		}
	}
}

// varsOf returns the numbers of the variables in a label.
func varsOf(s api.Scope, n api.Node) []int {
	var l []int
	if n.Kind == api.NodeVar {
		_, i := scope.Find(s, n.Text)
		return []int{i}
	}
	if n.Kind != api.NodeConst {
		for _, kid := range n.Kids {
			l = append(l, varsOf(s, kid)...)
		}
	}
	slices.Sort(l)
	return slices.Compact(l)
}

// Memory.

// frozen returns a copy of a node.
func frozen(n api.Node) api.Node {
	n.Names = append([]api.Word(nil), n.Names...)
	kids := n.Kids
	n.Kids = nil
	for _, kid := range kids {
		n.Kids = append(n.Kids, frozen(kid))
	}
	return n
}

func TestArgumentsAreOnlyRead(t *testing.T) {
	s := sample(t)
	vars := slices.Clone(s.Vars)
	n := parsed(t, "+(x,&(#hi,y),#mid,+(&(x)))")
	before := frozen(n)
	l, is := code.Compile(s, chain, n)
	if !is || !reflect.DeepEqual(frozen(n), before) || !slices.Equal(s.Vars, vars) || len(s.Lats) != 5 {
		t.Error("Compile changes its arguments")
	}
	// Beyond the lengths stand things that would be wrong.
	kids := []api.Node{variable("x"), variable("none")}
	if l, is := code.Compile(s, chain, join(kids[:1]...)); !is || !slices.Equal(l, list(v(0), j(1))) || kids[1].Text != "none" {
		t.Error("a Kid beyond the length counts:", l)
	}
	full := append(slices.Clone(l), c(), c(), v(-7))
	part, whole := full[:len(l)], slices.Clone(full)
	vals := []api.Elem{elem(1), elem(3), elem(7)}
	if !code.Right(part) || !slices.Equal(code.Vars(part), []int{0, 1}) {
		t.Error("what is beyond the length is read")
	}
	if e, is := code.Eval(s.Lats[chain].Shape, part, vals[:2]); !is || e != elem(3) {
		t.Error("what is beyond the length is evaluated:", e)
	}
	if _, is := code.Eval(s.Lats[chain].Shape, list(v(2)), vals[:2]); is {
		t.Error("a value beyond the length is read")
	}
	if !slices.Equal(full, whole) || !slices.Equal(vals, []api.Elem{elem(1), elem(3), elem(7)}) {
		t.Error("the arguments are changed")
	}
}

// overlap reports whether the memory of two lists overlaps, with what is beyond their lengths.
func overlap[T any](a, b []T) bool {
	var one T
	from, size := func(l []T) uintptr { return uintptr(unsafe.Pointer(unsafe.SliceData(l))) }, unsafe.Sizeof(one)
	return from(a) < from(b)+uintptr(cap(b))*size && from(b) < from(a)+uintptr(cap(a))*size
}

func TestResultsShareNoMemory(t *testing.T) {
	s := sample(t)
	for _, text := range []string{"x", "#hi", "+(x,y,#mid)", "&(+(y),#lo,x)"} {
		n := parsed(t, text)
		a, _ := code.Compile(s, chain, n)
		b, _ := code.Compile(s, chain, n)
		if overlap(a, b) {
			t.Errorf("%q: two codes share memory", text)
		}
		p, q := code.Vars(a), code.Vars(a)
		if len(p) > 0 && overlap(p, q) {
			t.Errorf("%q: two lists of variables share memory", text)
		}
		want := slices.Clone(b)
		for i := range a {
			a[i] = api.Ins{Op: 9, N: 9, Const: elem(9)}
		}
		if again, is := code.Compile(s, chain, n); !is || !slices.Equal(again, want) || !slices.Equal(b, want) {
			t.Errorf("%q: a changed result changes another one", text)
		}
	}
}
