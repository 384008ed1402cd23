package fit_test

import (
	"cmp"
	"math"
	"reflect"
	"slices"
	"strconv"
	"strings"
	"testing"
	"unsafe"

	"clearance/api"
	"clearance/command"
	"clearance/fit"
	"clearance/scope"
	"clearance/shape"
	"clearance/spell"
)

// deepest is the greatest number of levels for which the document promises anything.
const deepest = 1 << 16

// The numbers of the sample's lattices.
const (
	chain = iota
	power
	grid
	table
	product
)

// declared returns the scope that the lines declare.
func declared(t *testing.T, lines ...string) api.Scope {
	t.Helper()
	var s api.Scope
	for _, line := range lines {
		c := read(t, line)
		if f := scope.Fault(s, c); f.Class != 0 {
			t.Fatalf("%q gives %v", line, f)
		}
		s = scope.Add(s, c)
	}
	return s
}

// read returns the command that the line is.
func read(t *testing.T, line string) api.Cmd {
	t.Helper()
	c, f := command.Read(line)
	if f.Class != 0 {
		t.Fatalf("%q gives %v", line, f)
	}
	return c
}

// sample returns a scope with a lattice of each kind, and variables of both kinds of all of them. The numbers of the variables: x 0, y 1, r 2, s 3, u 4, lo 5, a 6, v 7, o 8, b 9, d 10, e 11, m 12, z 13, n 14.
func sample(t *testing.T) api.Scope {
	t.Helper()
	return declared(t, "chain k {lo,mid,hi}", "power p {a,b}", "grid g {o,q} {o<q}", "table t {bot,a,b,c,top} {bot<a,bot<b,bot<c,a<top,b<top,c<top}", "product w {k,p,g,t}",
		"label k {x,y}", "row k {r,s}", "label p {u,lo,a}", "row p {v}", "label g {o}", "row g {b}", "label t {d,e}", "row t {m}", "label w {z}", "row w {n}")
}

// elem returns the element with these words.
func elem(words ...uint64) api.Elem {
	var e api.Elem
	copy(e[:], words)
	return e
}

// The nodes, in short, with their offsets.

func variable(text string, at int) api.Node { return api.Node{Kind: api.NodeVar, Text: text, At: at} }
func constant(at int, kids ...api.Node) api.Node {
	return api.Node{Kind: api.NodeConst, At: at, Kids: kids}
}
func point(text string, at int) api.Node { return api.Node{Kind: api.NodePoint, Text: text, At: at} }
func node(kind, at int, kids ...api.Node) api.Node {
	return api.Node{Kind: kind, At: at, Kids: kids}
}
func field(text string, at int, kids ...api.Node) api.Node {
	return api.Node{Kind: api.NodeField, Text: text, At: at, Kids: kids}
}
func word(text string, at int) api.Word { return api.Word{Text: text, At: at} }

// leq and roweq return commands of the lattice k.
func leq(left, right api.Node) api.Cmd {
	return api.Cmd{Op: api.OpLeq, Name: word("k", 4), Left: left, Right: right}
}
func roweq(left, right api.Node) api.Cmd {
	return api.Cmd{Op: api.OpRoweq, Name: word("k", 6), Left: left, Right: right}
}

// mixed returns a function that returns numbers below its argument, in an order that is fixed but mixed.
func mixed() func(n int) int {
	x := uint64(1)
	return func(n int) int {
		x = x*6364136223846793005 + 1442695040888963407
		return int(x>>33) % n
	}
}

// The model follows the definitions word by word.

// modelFind returns the numbers of the first lattice and the first variable with this name, each -1 if there is none.
func modelFind(s api.Scope, text string) (lat, v int) {
	lat, v = -1, -1
	for i, l := range s.Lats {
		if l.Name == text && lat < 0 {
			lat = i
		}
	}
	for i, x := range s.Vars {
		if x.Name == text && v < 0 {
			v = i
		}
	}
	return lat, v
}

// modelFault lists all faults, and sorts them.
func modelFault(s api.Scope, c api.Cmd) api.Fault {
	if c.Op != 8 && c.Op != 9 && c.Op != 10 && c.Op != 15 {
		return api.Fault{}
	}
	l := modelFaults(s, c)
	slices.SortFunc(l, func(a, b api.Fault) int {
		return cmp.Or(cmp.Compare(a.Class, b.Class), cmp.Compare(a.At, b.At))
	})
	if len(l) == 0 {
		return api.Fault{}
	}
	return l[0]
}

// modelFaults returns all faults of an assertion or a query, in any order.
func modelFaults(s api.Scope, c api.Cmd) []api.Fault {
	var l []api.Fault
	add := func(class, at int) { l = append(l, api.Fault{Class: class, At: at}) }
	own, named := modelFind(s, c.Name.Text)
	requires := func(w api.Word, kind, lat int) {
		l, v := modelFind(s, w.Text)
		if l < 0 && v < 0 {
			add(3, w.At)
		}
		if l >= 0 && v < 0 {
			add(4, w.At)
		}
		if v >= 0 && (s.Vars[v].Kind != kind || lat >= 0 && s.Vars[v].Lat != lat) {
			add(4, w.At)
		}
	}
	if c.Op == 10 || c.Op == 15 {
		requires(c.Name, map[int]int{10: 2, 15: 1}[c.Op], -1)
		return l
	}
	if own < 0 && named < 0 {
		add(3, c.Name.At)
	} else if own < 0 {
		add(4, c.Name.At)
	}
	var atoms []api.Node
	if c.Op == 8 {
		// The nodes level by level.
		for level := []api.Node{c.Left, c.Right}; len(level) > 0; {
			var next []api.Node
			for _, n := range level {
				if atoms = append(atoms, n); n.Kind != 1 && n.Kind != 7 {
					next = append(next, n.Kids...)
				}
			}
			level = next
		}
		if c.Right.Kind == 8 || c.Right.Kind == 9 {
			add(6, c.Right.At)
		}
	} else {
		for _, n := range []api.Node{c.Left, c.Right} {
			if n.Kind == 1 {
				requires(api.Word{Text: n.Text, At: n.At}, 2, own)
			}
			if n.Kind != 10 {
				continue
			}
			for _, w := range n.Names {
				requires(w, 2, own)
			}
			for i, f := range n.Kids {
				atoms = append(atoms, f.Kids...)
				if slices.ContainsFunc(n.Kids[:i], func(g api.Node) bool { return g.Text == f.Text }) {
					add(4, f.At)
				}
			}
			if len(n.Kids) > 16 {
				add(7, c.At)
			}
		}
	}
	for _, n := range atoms {
		if n.Kind == 1 {
			requires(api.Word{Text: n.Text, At: n.At}, 1, own)
		}
		if n.Kind == 7 && len(n.Kids) > 0 && own >= 0 {
			if _, f := spell.Elem(s.Lats[own].Shape, n.Kids[0]); f.Class != 0 {
				l = append(l, f)
			}
		}
	}
	return l
}

// modelAssert returns the assertion that the command is, or false.
func modelAssert(s api.Scope, c api.Cmd) (api.Assert, bool) {
	if c.Op < 8 || c.Op > 10 || !command.Right(c) || len(modelFaults(s, c)) > 0 {
		return api.Assert{}, false
	}
	lat, v := modelFind(s, c.Name.Text)
	if c.Op == 10 {
		return api.Assert{Op: 10, Lat: s.Vars[v].Lat, Var: v, Field: c.Names[0].Text}, true
	}
	atom := func(n api.Node) api.Atom {
		if n.Kind == 1 {
			_, v := modelFind(s, n.Text)
			return api.Atom{Var: v}
		}
		e, _ := spell.Elem(s.Lats[lat].Shape, n.Kids[0])
		return api.Atom{Var: -1, Const: e}
	}
	if c.Op == 9 {
		row := func(n api.Node) api.RowTerm {
			t := api.RowTerm{Tail: -1}
			if n.Kind == 1 {
				n.Names = []api.Word{{Text: n.Text}}
			}
			for _, w := range n.Names {
				_, t.Tail = modelFind(s, w.Text)
			}
			for _, f := range n.Kids {
				t.Fields = append(t.Fields, api.Field{Name: f.Text, Atom: atom(f.Kids[0])})
			}
			return t
		}
		return api.Assert{Op: 9, Lat: lat, A: row(c.Left), B: row(c.Right)}, true
	}
	var compiled func(n api.Node) []api.Ins
	compiled = func(n api.Node) []api.Ins {
		if n.Kind == 1 {
			return []api.Ins{{Op: 1, N: atom(n).Var}}
		}
		if n.Kind == 7 {
			return []api.Ins{{Op: 2, Const: atom(n).Const}}
		}
		var l []api.Ins
		for _, kid := range n.Kids {
			l = append(l, compiled(kid)...)
		}
		return append(l, api.Ins{Op: n.Kind - 5, N: len(n.Kids)})
	}
	return api.Assert{Op: 8, Lat: lat, Code: compiled(c.Left), To: atom(c.Right)}, true
}

// modelRight counts what is wrong with an assertion.
func modelRight(s api.Scope, a api.Assert) bool {
	wrong := 0
	must := func(is bool) {
		if !is {
			wrong++
		}
	}
	variable := func(v, kind int) {
		must(v >= 0 && v < len(s.Vars) && s.Vars[v].Kind == kind && s.Vars[v].Lat == a.Lat)
	}
	named := func(text string) {
		must(len(text) > 0 && len(text) <= 16 && strings.Trim(text, "abcdefghijklmnopqrstuvwxyz0123456789_") == "" && !strings.Contains("0123456789_", text[:1]))
	}
	exists := a.Lat >= 0 && a.Lat < len(s.Lats)
	element := func(e api.Elem) { must(exists && shape.Fits(s.Lats[a.Lat].Shape, e)) }
	atom := func(x api.Atom) {
		if x.Var < 0 {
			element(x.Const)
		} else {
			variable(x.Var, 1)
		}
	}
	switch a.Op {
	case 8:
		must(exists)
		size := 0
		for _, x := range a.Code {
			switch x.Op {
			case 1:
				variable(x.N, 1)
				size++
			case 2:
				element(x.Const)
				size++
			default:
				must((x.Op == 3 || x.Op == 4) && x.N >= 1 && x.N <= size)
				size -= x.N - 1
			}
			if wrong > 0 {
				return false
			}
		}
		must(size == 1)
		atom(a.To)
	case 9:
		must(exists)
		for _, t := range []api.RowTerm{a.A, a.B} {
			must(len(t.Fields) <= 16)
			for i, f := range t.Fields {
				named(f.Name)
				atom(f.Atom)
				for _, g := range t.Fields[:i] {
					must(f.Name != g.Name)
				}
			}
			if t.Tail >= 0 {
				variable(t.Tail, 2)
			}
		}
	case 10:
		variable(a.Var, 2)
		named(a.Field)
	default:
		return false
	}
	return wrong == 0
}

// alike reports whether two assertions are equal; an empty list is equal to nil.
func alike(a, b api.Assert) bool {
	row := func(t, u api.RowTerm) bool { return slices.Equal(t.Fields, u.Fields) && t.Tail == u.Tail }
	return a.Op == b.Op && a.Lat == b.Lat && slices.Equal(a.Code, b.Code) && a.To == b.To && row(a.A, b.A) && row(a.B, b.B) && a.Var == b.Var && a.Field == b.Field
}

// checkCommand compares Fault, and Assert, and Right of its result, with the model.
func checkCommand(t *testing.T, s api.Scope, c api.Cmd) (api.Assert, api.Fault) {
	t.Helper()
	f := fit.Fault(s, c)
	if want := modelFault(s, c); f != want {
		t.Fatalf("%q (%+v) gives %v, want %v", command.Text(c), c, f, want)
	}
	a, is := fit.Assert(s, c)
	if want, has := modelAssert(s, c); !alike(a, want) || is != has {
		t.Fatalf("%q (%+v) is the assertion %+v, %v; want %+v, %v", command.Text(c), c, a, is, want, has)
	}
	if is {
		checkRight(t, s, a)
	}
	return a, f
}

// checkRight compares Right with the model.
func checkRight(t *testing.T, s api.Scope, a api.Assert) bool {
	t.Helper()
	got := fit.Right(s, a)
	if got != modelRight(s, a) {
		t.Fatalf("that %+v fits is %v", a, got)
	}
	return got
}

// P15.1: Fault.

// fields returns a list of so many fields, each with the atom.
func fields(n int, atom string) string {
	var l []string
	for i := range n {
		l = append(l, "f"+strconv.Itoa(i)+"="+atom)
	}
	return strings.Join(l, ",")
}

func TestFaultsOfLines(t *testing.T) {
	s := sample(t)
	for line, want := range map[string]api.Fault{
		// Right ones.
		"leq k x y": {}, "leq k #hi x": {}, "leq k x #hi": {}, "leq k #hi #lo": {}, "leq k x x": {}, "leq k +(x,&(y,#mid),+(#lo)) y": {}, "leq k &(x) x": {},
		"leq p +(u,lo,a,#{}) #{a,b}": {}, "leq g o #[o:{q},q:{o}]": {}, "leq t +(d,#a,#b) e": {}, "leq w z #(hi,{a},[o:{q}],top)": {}, "leq w &(z,#(lo,{},[],bot)) z": {},
		"roweq k r s": {}, "roweq k r r": {}, "roweq k [] []": {}, "roweq k [|r] [|r]": {}, "roweq k [f=x|r] [g=#hi|s]": {}, "roweq k [f=x,g=x,h=#lo] [f=y]": {}, "roweq k r [x=x,k=y,r=#mid|r]": {},
		"roweq p v [f=u,g=#{b}|v]": {}, "roweq g b [f=o]": {}, "roweq t [f=d|m] m": {}, "roweq w n [f=z,g=#(mid,{},[],c)]": {},
		"lacks r f": {}, "lacks v f": {}, "lacks n k": {}, "lacks m m": {}, "why x": {}, "why u": {}, "why o": {}, "why e": {}, "why z": {},
		// The name of the command.
		"leq l x y": {Class: api.Name, At: 4}, "leq lo x y": {Class: api.Sort, At: 4}, "leq hi x y": {Class: api.Name, At: 4}, "leq x x y": {Class: api.Sort, At: 4}, "leq r x y": {Class: api.Sort, At: 4},
		"roweq l r s": {Class: api.Name, At: 6}, "roweq x r s": {Class: api.Sort, At: 6}, "roweq r r s": {Class: api.Sort, At: 6},
		"lacks l f": {Class: api.Name, At: 6}, "lacks x f": {Class: api.Sort, At: 6}, "lacks k f": {Class: api.Sort, At: 6}, "lacks hi f": {Class: api.Name, At: 6}, "lacks z f": {Class: api.Sort, At: 6}, "lacks w f": {Class: api.Sort, At: 6},
		"why l": {Class: api.Name, At: 4}, "why r": {Class: api.Sort, At: 4}, "why k": {Class: api.Sort, At: 4}, "why hi": {Class: api.Name, At: 4}, "why n": {Class: api.Sort, At: 4}, "why g": {Class: api.Sort, At: 4},
		// The variables of a label.
		"leq k l y": {Class: api.Name, At: 6}, "leq k x l": {Class: api.Name, At: 8}, "leq k hi y": {Class: api.Name, At: 6}, "leq k +(x,l) y": {Class: api.Name, At: 10}, "leq k &(x,+(y,&(l))) y": {Class: api.Name, At: 16},
		"leq k k y": {Class: api.Sort, At: 6}, "leq k x p": {Class: api.Sort, At: 8}, "leq k r y": {Class: api.Sort, At: 6}, "leq k x r": {Class: api.Sort, At: 8}, "leq k u y": {Class: api.Sort, At: 6}, "leq k x lo": {Class: api.Sort, At: 8},
		"leq p x u": {Class: api.Sort, At: 6}, "leq w x z": {Class: api.Sort, At: 6}, "leq k z x": {Class: api.Sort, At: 6}, "leq g o v": {Class: api.Sort, At: 8}, "leq k +(x,&(u,y)) x": {Class: api.Sort, At: 12}, "leq k +(x,v) x": {Class: api.Sort, At: 10},
		// The constants.
		"leq k #none x": {Class: api.Sort, At: 7}, "leq k x #none": {Class: api.Sort, At: 9}, "leq k #{lo} x": {Class: api.Sort, At: 7}, "leq k +(x,&(#x)) x": {Class: api.Sort, At: 13},
		"leq p #a u": {Class: api.Sort, At: 7}, "leq p #{a,c,d} u": {Class: api.Sort, At: 10}, "leq g #[o:{q},q:{x}] o": {Class: api.Sort, At: 17}, "leq g #[x:{q}] o": {Class: api.Sort, At: 8}, "leq t d #lo": {Class: api.Sort, At: 9},
		"leq w z #(lo,{},[])": {Class: api.Sort, At: 9}, "leq w #(lo,{},[],x) z": {Class: api.Sort, At: 17}, "leq w z #lo": {Class: api.Sort, At: 9}, "leq k #(lo) x": {Class: api.Sort, At: 7},
		"roweq k [f=#none] r": {Class: api.Sort, At: 12}, "roweq k r [f=x,g=#{}]": {Class: api.Sort, At: 18}, "roweq p v [f=#{a,x}]": {Class: api.Sort, At: 17}, "roweq w [f=#(lo,{},[],lo)] n": {Class: api.Sort, At: 22},
		// Rows and their ends.
		"roweq k l r": {Class: api.Name, At: 8}, "roweq k r l": {Class: api.Name, At: 10}, "roweq k x r": {Class: api.Sort, At: 8}, "roweq k r y": {Class: api.Sort, At: 10}, "roweq k k r": {Class: api.Sort, At: 8}, "roweq k r w": {Class: api.Sort, At: 10},
		"roweq k v r": {Class: api.Sort, At: 8}, "roweq k r n": {Class: api.Sort, At: 10}, "roweq k [|l] r": {Class: api.Name, At: 10}, "roweq k r [f=x|l]": {Class: api.Name, At: 15}, "roweq k [|x] r": {Class: api.Sort, At: 10},
		"roweq k [|p] r": {Class: api.Sort, At: 10}, "roweq k r [f=x|v]": {Class: api.Sort, At: 15}, "roweq p r v": {Class: api.Sort, At: 8}, "roweq w [|n] m": {Class: api.Sort, At: 13},
		// Fields.
		"roweq k [f=l] r": {Class: api.Name, At: 11}, "roweq k r [f=x,g=l]": {Class: api.Name, At: 17}, "roweq k [f=r] r": {Class: api.Sort, At: 11}, "roweq k r [f=k]": {Class: api.Sort, At: 13}, "roweq k r [f=u]": {Class: api.Sort, At: 13}, "roweq p v [f=x]": {Class: api.Sort, At: 13},
		"roweq k r [f=x,f=x]": {Class: api.Sort, At: 15}, "roweq k [f=x,f=y] r": {Class: api.Sort, At: 13}, "roweq k [f=x,g=x,h=x,g=x] r": {Class: api.Sort, At: 21}, "roweq k [f=x,f=x,f=x] r": {Class: api.Sort, At: 13}, "roweq k [g=x,f=x,f=x,g=x] r": {Class: api.Sort, At: 17},
		"roweq k [f=x] [f=x]": {}, "roweq k [f=x|r] [g=x,f=x|r]": {}, "roweq k [f=x,f=l] r": {Class: api.Name, At: 15}, "roweq k [f=x] [f=x,f=#lo]": {Class: api.Sort, At: 19},
		// Right sides that are no variables and no constants.
		"leq k x +(x,y)": {Class: api.Definite, At: 8}, "leq k x &(x,y)": {Class: api.Definite, At: 8}, "leq k x +(x)": {Class: api.Definite, At: 8}, "leq k #lo &(#lo)": {Class: api.Definite, At: 10}, "leq k +(x) +(x)": {Class: api.Definite, At: 11},
		"leq k x +(r)": {Class: api.Sort, At: 10}, "leq k x +(l)": {Class: api.Name, At: 10}, "leq k r +(x)": {Class: api.Sort, At: 6}, "leq k x +(#x)": {Class: api.Sort, At: 11}, "leq l x +(x)": {Class: api.Name, At: 4},
		// Several faults.
		"leq k u l": {Class: api.Name, At: 8}, "leq k l u": {Class: api.Name, At: 6}, "leq k u v": {Class: api.Sort, At: 6}, "leq x l l": {Class: api.Name, At: 6}, "leq l l l": {Class: api.Name, At: 4}, "leq x r #x": {Class: api.Sort, At: 4}, "leq k #x r": {Class: api.Sort, At: 7}, "leq k #{x,y} l": {Class: api.Name, At: 13},
		"roweq x l s": {Class: api.Name, At: 8}, "roweq k [f=u|l] x": {Class: api.Name, At: 13}, "roweq k [f=u|v] x": {Class: api.Sort, At: 11}, "roweq k [f=#x|v] x": {Class: api.Sort, At: 12}, "roweq k x [f=l]": {Class: api.Name, At: 13},
		// As many fields as there may be, and one more.
		"roweq k [" + fields(16, "x") + "] [" + fields(16, "#hi") + "|r]": {}, "  roweq k [" + fields(17, "x") + "] r": {Class: api.Limit, At: 2}, "roweq k r [" + fields(17, "x") + "|r]": {Class: api.Limit, At: 0},
		" roweq k [" + fields(17, "x") + "] [" + fields(40, "x") + "]": {Class: api.Limit, At: 1}, "roweq k r [" + fields(16, "x") + ",f3=x]": {Class: api.Sort, At: 11 + 10*5 + 6*6}, "roweq k r [" + fields(17, "x") + "|x]": {Class: api.Sort, At: 11 + 10*5 + 7*6},
		"roweq l r [" + fields(17, "x") + "]": {Class: api.Name, At: 6}, "roweq k r [" + fields(17, "r") + "]": {Class: api.Sort, At: 14}, "roweq k r [" + fields(17, "#x") + "]": {Class: api.Sort, At: 15},
		// Other commands.
		"": {}, "push": {}, "pop": {}, "check": {}, "core": {}, "chain k {a,a}": {}, "product l {q}": {}, "label l {x}": {}, "row x {r}": {}, "table t {a,b} {}": {},
	} {
		c := read(t, line)
		if f := fit.Fault(s, c); f != want {
			t.Errorf("%q gives %v, want %v", line, f, want)
		}
		if a, is := fit.Assert(s, c); is != (want.Class == 0 && c.Op >= api.OpLeq && c.Op <= api.OpLacks) || !is && !alike(a, api.Assert{}) {
			t.Errorf("%q is the assertion %+v, %v", line, a, is)
		}
		checkCommand(t, s, c)
	}
}

func TestExamples(t *testing.T) {
	s := declared(t, "chain k {lo,hi}", "label k {x,y}", "row k {r}")
	if f := fit.Fault(s, read(t, "leq k x +(x,y)")); f.Class != api.Definite || f.At != 8 {
		t.Error("leq k x +(x,y) gives", f)
	}
	if f := fit.Fault(s, read(t, "leq k x r")); f.Class != api.Sort {
		t.Error("leq k x r gives", f)
	}
}

// Offsets need not be those of a line, so that each place shows its own.
func TestFaultsAtTheirPlaces(t *testing.T) {
	s := sample(t)
	x, y := variable("x", 50), variable("y", 60)
	lo := constant(51, point("lo", 52))
	for what, test := range map[string]struct {
		c    api.Cmd
		want api.Fault
	}{
		"a lattice that is not live":          {api.Cmd{Op: api.OpLeq, Name: word("l", -7), Left: x, Right: y}, api.Fault{Class: 3, At: -7}},
		"a lattice that is a variable":        {api.Cmd{Op: api.OpLeq, Name: word("x", 99), Left: x, Right: y}, api.Fault{Class: 4, At: 99}},
		"no lattice for a variable":           {api.Cmd{Op: api.OpLeq, Name: word("x", 99), Left: variable("u", 1), Right: variable("z", 2)}, api.Fault{Class: 4, At: 99}},
		"no lattice for a row":                {api.Cmd{Op: api.OpRoweq, Name: word("x", 99), Left: variable("v", 1), Right: api.Node{Kind: api.NodeRow, Names: []api.Word{word("n", 2)}}}, api.Fault{Class: 4, At: 99}},
		"no lattice for a field":              {api.Cmd{Op: api.OpRoweq, Name: word("x", 99), Left: variable("v", 1), Right: node(api.NodeRow, 2, field("f", 3, variable("u", 4)), field("g", 3, variable("z", 4)))}, api.Fault{Class: 4, At: 99}},
		"no lattice for a constant":           {api.Cmd{Op: api.OpLeq, Name: word("x", 99), Left: constant(1, point("none", 2)), Right: constant(3)}, api.Fault{Class: 4, At: 99}},
		"a row where no lattice is":           {api.Cmd{Op: api.OpLeq, Name: word("x", 99), Left: variable("r", 80), Right: x}, api.Fault{Class: 4, At: 80}},
		"a label where no lattice is":         {api.Cmd{Op: api.OpRoweq, Name: word("r", 99), Left: x, Right: variable("r", 1)}, api.Fault{Class: 4, At: 50}},
		"a lattice where no lattice is":       {api.Cmd{Op: api.OpLeq, Name: word("x", 99), Left: x, Right: variable("p", 81)}, api.Fault{Class: 4, At: 81}},
		"a name where no lattice is":          {api.Cmd{Op: api.OpLeq, Name: word("x", 9), Left: x, Right: variable("l", 82)}, api.Fault{Class: 3, At: 82}},
		"two names, the second one ahead":     {leq(variable("l", 9), variable("q", 3)), api.Fault{Class: 3, At: 3}},
		"a name after a sort":                 {leq(variable("u", 3), variable("q", 9)), api.Fault{Class: 3, At: 9}},
		"a constant, not its sign":            {leq(lo, constant(2, point("none", 70))), api.Fault{Class: 4, At: 70}},
		"a constant ahead of a variable":      {leq(variable("u", 71), constant(90, point("none", 70))), api.Fault{Class: 4, At: 70}},
		"a right side that is a join":         {leq(x, node(api.NodeJoin, 33, x)), api.Fault{Class: 6, At: 33}},
		"a right side that is a meet":         {leq(x, node(api.NodeMeet, -33, x)), api.Fault{Class: 6, At: -33}},
		"a field":                             {roweq(node(api.NodeRow, 9, field("f", 41, x), field("f", 42, x), field("f", 40, x)), variable("r", 1)), api.Fault{Class: 4, At: 40}},
		"a field of the right row":            {roweq(variable("r", 1), node(api.NodeRow, 9, field("f", 2, x), field("g", 3, x), field("f", -4, x))), api.Fault{Class: 4, At: -4}},
		"a field, not its atom":               {roweq(variable("r", 1), node(api.NodeRow, 9, field("f", 2, x), field("f", 20, x))), api.Fault{Class: 4, At: 20}},
		"the end of a row":                    {roweq(variable("r", 1), api.Node{Kind: api.NodeRow, At: 2, Names: []api.Word{word("x", 44)}}), api.Fault{Class: 4, At: 44}},
		"the name of a lacks":                 {api.Cmd{Op: api.OpLacks, At: 3, Name: word("x", 17), Names: []api.Word{word("f", 2)}}, api.Fault{Class: 4, At: 17}},
		"the name of a why":                   {api.Cmd{Op: api.OpWhy, At: 3, Name: word("q", 18)}, api.Fault{Class: 3, At: 18}},
		"the limit":                           {api.Cmd{Op: api.OpRoweq, At: -5, Name: word("k", 6), Left: variable("r", 1), Right: api.Node{Kind: api.NodeRow, At: 2, Kids: parsedFields(17, x)}}, api.Fault{Class: 7, At: -5}},
		"the limit, with a join on the right": {api.Cmd{Op: api.OpRoweq, At: -5, Name: word("k", 6), Left: api.Node{Kind: api.NodeRow, At: 2, Kids: parsedFields(17, x)}, Right: node(api.NodeJoin, 3)}, api.Fault{Class: 7, At: -5}},
	} {
		if f := fit.Fault(s, test.c); f != test.want {
			t.Errorf("%s gives %v, want %v", what, f, test.want)
		}
		checkCommand(t, s, test.c)
	}
}

// parsedFields returns a list of so many fields, each with the atom.
func parsedFields(n int, atom api.Node) []api.Node {
	var l []api.Node
	for i := range n {
		l = append(l, field("f"+strconv.Itoa(i), 10+i, atom))
	}
	return l
}

// Nodes of which parsing would give no command.
func TestFaultsOfNodesThatAreNoTerms(t *testing.T) {
	s := sample(t)
	x, wrong, none := variable("x", 1), variable("l", 70), constant(2, point("none", 71))
	row := func(names ...api.Word) api.Node { return api.Node{Kind: api.NodeRow, Names: names} }
	withText := func(n api.Node, text string) api.Node { n.Text = text; return n }
	for what, test := range map[string]struct {
		c    api.Cmd
		want api.Fault
	}{
		"zero nodes in a leq":                          {leq(api.Node{}, api.Node{}), api.Fault{}},
		"zero nodes in a roweq":                        {roweq(api.Node{}, api.Node{}), api.Fault{}},
		"a zero command":                               {api.Cmd{}, api.Fault{}},
		"only an Op":                                   {api.Cmd{Op: api.OpLeq}, api.Fault{Class: 3}},
		"only the Op of a why":                         {api.Cmd{Op: api.OpWhy}, api.Fault{Class: 3}},
		"a variable in a row in a leq":                 {leq(node(api.NodeRow, 5, field("f", 6, wrong)), x), api.Fault{Class: 3, At: 70}},
		"a variable in a node of no kind":              {leq(x, node(99, 5, node(-1, 6, node(0, 7, wrong)))), api.Fault{Class: 3, At: 70}},
		"a constant in a tuple":                        {leq(x, node(api.NodeTuple, 5, none)), api.Fault{Class: 4, At: 71}},
		"a constant in a point":                        {leq(node(api.NodePoint, 5, x, none), x), api.Fault{Class: 4, At: 71}},
		"a field of a name that is not live, in a leq": {leq(field("l", 5, x), x), api.Fault{}},
		"names of a row in a leq":                      {leq(row(word("l", 5), word("x", 6)), x), api.Fault{}},
		"equal fields in a leq":                        {leq(node(api.NodeRow, 3, field("f", 4, x), field("f", 5, x)), x), api.Fault{}},
		"many fields in a leq":                         {leq(node(api.NodeRow, 3, parsedFields(17, x)...), x), api.Fault{}},
		"a variable in a variable":                     {leq(node(api.NodeJoin, 3, api.Node{Kind: api.NodeVar, Text: "x", Kids: []api.Node{wrong, none}}), x), api.Fault{}},
		"a variable in a constant":                     {leq(constant(3, point("lo", 4), wrong, none), x), api.Fault{}},
		"a variable as a constant":                     {leq(constant(3, wrong), x), api.Fault{Class: 4, At: 70}},
		"a variable in a constant that is none":        {leq(constant(3, api.Node{Kind: api.NodePoint, Text: "lo", At: 9, Kids: []api.Node{wrong}}), x), api.Fault{Class: 4, At: 9}},
		"a constant without Kids":                      {leq(constant(3), constant(4)), api.Fault{}},
		"a constant with a text":                       {leq(withText(constant(3, point("lo", 4)), "l"), x), api.Fault{}},
		"a join without Kids on the left":              {leq(node(api.NodeJoin, 8), x), api.Fault{}},
		"a join without Kids on the right":             {leq(x, node(api.NodeJoin, 8)), api.Fault{Class: 6, At: 8}},
		"a right side that is a row":                   {leq(x, row()), api.Fault{}},
		"a join in a row on the right":                 {leq(x, node(api.NodeRow, 8, node(api.NodeJoin, 9, x))), api.Fault{}},
		"a join in a roweq":                            {roweq(variable("r", 1), node(api.NodeJoin, 8, wrong)), api.Fault{}},
		"a constant in a roweq":                        {roweq(none, variable("r", 1)), api.Fault{}},
		"a field in a roweq":                           {roweq(field("f", 1, wrong), field("f", 1, none)), api.Fault{}},
		"a variable with Kids as a row":                {roweq(api.Node{Kind: api.NodeVar, Text: "r", Kids: []api.Node{wrong, field("f", 3, wrong)}, Names: []api.Word{word("l", 1)}}, variable("r", 1)), api.Fault{}},
		"a field without Kids":                         {roweq(node(api.NodeRow, 1, field("f", 2)), variable("r", 1)), api.Fault{}},
		"a field with several Kids":                    {roweq(node(api.NodeRow, 1, field("f", 2, x, constant(1, point("hi", 1)), none)), variable("r", 1)), api.Fault{Class: 4, At: 71}},
		"a field with several Kids, the last wrong":    {roweq(node(api.NodeRow, 1, field("f", 2, x, x, wrong)), variable("r", 1)), api.Fault{Class: 3, At: 70}},
		"a join in a field":                            {roweq(node(api.NodeRow, 1, field("f", 2, node(api.NodeJoin, 3, wrong, none))), variable("r", 1)), api.Fault{}},
		"a field in a field":                           {roweq(node(api.NodeRow, 1, field("f", 2, field("f", 3, wrong))), variable("r", 1)), api.Fault{}},
		"a variable as a field":                        {roweq(node(api.NodeRow, 1, wrong), variable("r", 1)), api.Fault{}},
		"a variable as a field, and its Kids":          {roweq(node(api.NodeRow, 1, api.Node{Kind: api.NodeVar, Text: "x", Kids: []api.Node{wrong}}), variable("r", 1)), api.Fault{Class: 3, At: 70}},
		"a constant as a field":                        {roweq(node(api.NodeRow, 1, none), variable("r", 1)), api.Fault{}},
		"a constant as a field, and its Kids":          {roweq(node(api.NodeRow, 1, constant(2, wrong)), variable("r", 1)), api.Fault{Class: 3, At: 70}},
		"nodes of any kind as fields":                  {roweq(variable("r", 1), node(api.NodeRow, 1, node(77, 5), node(-3, 6), node(0, 4))), api.Fault{Class: 4, At: 4}},
		"nodes of any kind as fields, with atoms":      {roweq(variable("r", 1), node(api.NodeRow, 1, withText(node(77, 5, x), "f"), withText(node(api.NodeMeet, 6, none), "g"))), api.Fault{Class: 4, At: 71}},
		"a row with two ends":                          {roweq(row(word("r", 5), word("l", 6)), row(word("r", 5), word("x", 6))), api.Fault{Class: 3, At: 6}},
		"a row with two ends, the second one a label":  {roweq(row(word("r", 5), word("x", 9)), row(word("s", 5), word("r", 6))), api.Fault{Class: 4, At: 9}},
		"many nodes of any kind as fields":             {roweq(node(api.NodeRow, 1, append(parsedFields(16, x), withText(node(88, 3), "g"))...), variable("r", 1)), api.Fault{Class: 7}},
		"the other parts of a lacks":                   {api.Cmd{Op: api.OpLacks, Name: word("r", 1), Names: []api.Word{word("X", 5), word("", 6)}, Left: wrong, Right: node(api.NodeRow, 1, parsedFields(17, wrong)...)}, api.Fault{}},
		"the other parts of a why":                     {api.Cmd{Op: api.OpWhy, Name: word("x", 1), Names: []api.Word{word("l", 5)}, Left: wrong, Right: node(api.NodeJoin, 1)}, api.Fault{}},
		"the other parts of a leq":                     {api.Cmd{Op: api.OpLeq, Name: word("k", 1), Names: []api.Word{word("l", 5)}, Pairs: [][2]api.Word{{word("l", 7)}}, Left: x, Right: x}, api.Fault{}},
	} {
		if f := fit.Fault(s, test.c); f != test.want {
			t.Errorf("%s gives %v, want %v", what, f, test.want)
		}
		checkCommand(t, s, test.c)
	}
}

func TestOtherCommands(t *testing.T) {
	s := sample(t)
	wrong := variable("l", 3)
	for _, op := range []int{math.MinInt, -1, 0, 1, 2, 3, 4, 5, 6, 7, 11, 12, 13, 14, 16, 99, math.MaxInt} {
		for _, c := range []api.Cmd{{}, {Name: word("l", 1)}, {Name: word("k", 1), Left: wrong, Right: wrong}, {Name: word("k", 1), Names: []api.Word{word("f", 2)}, Left: variable("x", 1), Right: variable("x", 2)}, {Name: word("r", 1), Names: []api.Word{word("f", 2)}}} {
			c.Op = op
			if f := fit.Fault(s, c); f != (api.Fault{}) {
				t.Errorf("the Op %d gives %v", op, f)
			}
			if a, is := fit.Assert(s, c); is || !alike(a, api.Assert{}) {
				t.Errorf("the Op %d is the assertion %+v", op, a)
			}
		}
	}
	for _, line := range []string{"", "push", "check", "core", "chain l {a}", "label k {new}", "why x"} {
		if a, is := fit.Assert(s, read(t, line)); is || !alike(a, api.Assert{}) {
			t.Errorf("%q is the assertion %+v", line, a)
		}
	}
}

// A lattice and a variable may have one name in a scope that is not valid, and several of them may have it.
func TestScopesThatAreNotValid(t *testing.T) {
	s := sample(t)
	s.Lats = append(s.Lats, api.Lat{Name: "x", Shape: s.Lats[power].Shape}, api.Lat{Name: "k", Shape: s.Lats[power].Shape}, api.Lat{Name: "broken"}, api.Lat{Name: "", Shape: s.Lats[chain].Shape})
	s.Vars = append(s.Vars,
		api.Var{Name: "k", Kind: api.Label, Lat: chain}, api.Var{Name: "p", Kind: api.Row, Lat: chain}, api.Var{Name: "y", Kind: api.Row, Lat: chain}, api.Var{Name: "r", Kind: api.Label, Lat: chain},
		api.Var{Name: "q0", Kind: 0}, api.Var{Name: "q3", Kind: 3}, api.Var{Name: "q4", Kind: api.Label, Lat: -1}, api.Var{Name: "q5", Kind: api.Row, Lat: 99}, api.Var{Name: "q6", Kind: api.Label, Lat: 7}, api.Var{Name: "q7", Kind: api.Row, Lat: 7},
		api.Var{Name: "q8", Kind: api.Label, Lat: 6}, api.Var{Name: "q9", Kind: api.Label, Lat: 5}, api.Var{Name: "q10", Kind: api.Row, Lat: -1}, api.Var{Name: "Q", Kind: api.Label, Lat: chain})
	for line, want := range map[string]api.Fault{
		"leq k k x": {}, "leq k k #hi": {}, "roweq k p r": {}, "roweq k [f=k|p] p": {}, "leq x x #{a}": {Class: 4, At: 6}, "leq x q9 #{a}": {}, "leq x q9 #hi": {Class: 4, At: 10}, "why k": {}, "lacks p f": {}, "lacks k f": {Class: 4, At: 6}, "why p": {Class: 4, At: 4},
		"leq k y x": {}, "roweq k y r": {Class: 4, At: 8}, "leq k r x": {Class: 4, At: 6}, "why y": {}, "why r": {Class: 4, At: 4}, "leq k #{a} x": {Class: 4, At: 7}, "leq k q8 x": {Class: 4, At: 6},
		"leq k q0 x": {Class: 4, At: 6}, "leq k q3 x": {Class: 4, At: 6}, "why q0": {Class: 4, At: 4}, "lacks q3 f": {Class: 4, At: 6}, "roweq k q0 r": {Class: 4, At: 8},
		"why q4": {}, "lacks q5 f": {}, "lacks q10 f": {}, "leq k q4 x": {Class: 4, At: 6}, "roweq k q5 r": {Class: 4, At: 8},
		"leq broken q6 q6": {}, "leq broken q6 #lo": {Class: 4, At: 15}, "roweq broken [f=q6|q7] q7": {}, "roweq broken [] []": {}, "roweq broken [f=#lo] []": {Class: 4, At: 17},
	} {
		c := read(t, line)
		if f := fit.Fault(s, c); f != want {
			t.Errorf("%q gives %v, want %v", line, f, want)
		}
		checkCommand(t, s, c)
	}
	// A name that is none can be live, too.
	if f := fit.Fault(s, api.Cmd{Op: api.OpLeq, Left: variable("Q", 1), Right: variable("Q", 2)}); f != (api.Fault{Class: 4, At: 1}) {
		t.Error("names that are none give", f)
	}
	if f := fit.Fault(s, leq(variable("Q", 1), variable("Q", 2))); f != (api.Fault{}) {
		t.Error("a variable whose name is none gives", f)
	}
	if _, is := fit.Assert(s, leq(variable("Q", 1), variable("Q", 2))); is {
		t.Error("a variable whose name is none is part of an assertion")
	}
	for _, number := range []int{-1, 99} {
		name := map[int]string{-1: "q10", 99: "q5"}[number]
		if a, is := fit.Assert(s, read(t, "lacks "+name+" f")); !is || a.Lat != number || s.Vars[a.Var].Name != name || !fit.Right(s, a) {
			t.Errorf("a row of the lattice %d: %+v, %v", number, a, is)
		}
	}
	// Without anything, all names are wrong.
	for line, at := range map[string]int{"leq k x y": 4, "roweq k r s": 6, "lacks r f": 6, "why x": 4} {
		if f := fit.Fault(api.Scope{}, read(t, line)); f != (api.Fault{Class: api.Name, At: at}) {
			t.Errorf("in the empty scope %q gives %v", line, f)
		}
	}
	// What is beyond the lengths is not live.
	full := sample(t)
	if f := fit.Fault(api.Scope{Lats: full.Lats[:4], Vars: full.Vars}, read(t, "leq w z z")); f != (api.Fault{Class: api.Name, At: 4}) {
		t.Error("a lattice beyond the length:", f)
	}
	if f := fit.Fault(api.Scope{Lats: full.Lats, Vars: full.Vars[:13]}, read(t, "leq w z z")); f != (api.Fault{Class: api.Name, At: 6}) {
		t.Error("a variable beyond the length:", f)
	}
}

// drawer draws commands that could or could not be parsed, over the names of a scope.
type drawer struct {
	next   func(n int) int
	scope  api.Scope
	strays int
}

// stray reports whether something should be wrong, which is so once in so many times, or never if that is 0.
func (d drawer) stray() bool {
	return d.strays > 0 && d.next(d.strays) == 0
}

// at returns an offset.
func (d drawer) at() int { return d.next(60) - 10 }

// name returns the name of a variable of this kind and lattice, or a wrong one.
func (d drawer) name(kind, lat int) string {
	if d.stray() {
		l := []string{"l", "none", "k", "p", "x", "r", "v", "z", "lo", "hi", "", "X", "m"}
		return l[d.next(len(l))]
	}
	var own []string
	for _, x := range d.scope.Vars {
		if x.Kind == kind && x.Lat == lat {
			own = append(own, x.Name)
		}
	}
	return own[d.next(len(own))]
}

// constant returns a constant of the lattice, or a wrong one.
func (d drawer) constant(lat int) api.Node {
	if d.stray() {
		lat = d.next(5)
	}
	if d.stray() {
		return []api.Node{{}, point("none", d.at()), variable("x", d.at()), node(api.NodeTuple, d.at()), point("lo", d.at()), {Kind: api.NodeSet, Names: []api.Word{word("none", d.at())}}}[d.next(6)]
	}
	own := d.scope.Lats[lat].Shape
	var e api.Elem
	for i := range e {
		e[i] = uint64(d.next(32))
	}
	for ; !shape.Fits(own, e); e[d.next(8)] = 0 {
		for i, f := range own.Factors {
			e[i] = []uint64{0, 1, 3, 5, 9, 31}[d.next(map[int]int{api.Chain: 3, api.Power: 3, api.Grid: 2, api.Table: 6}[f.Kind])]
		}
	}
	n := spell.Node(own, e)
	n.At = d.at()
	return n
}

// atom returns an atom of the lattice.
func (d drawer) atom(lat int) api.Node {
	if d.stray() {
		return []api.Node{{}, constant(d.at()), node(d.next(15)-2, d.at(), d.atom(lat)), constant(d.at(), d.constant(lat), d.constant(lat))}[d.next(4)]
	}
	if d.next(2) == 0 {
		return constant(d.at(), d.constant(lat))
	}
	return variable(d.name(api.Label, lat), d.at())
}

// label returns a label of at most so many levels.
func (d drawer) label(lat, levels int) api.Node {
	if levels == 0 || d.next(3) == 0 {
		return d.atom(lat)
	}
	n := api.Node{Kind: api.NodeJoin + d.next(2), At: d.at()}
	if d.stray() {
		n.Kind = d.next(15) - 2
		n.Text = d.name(api.Label, lat)
	}
	for range 1 + d.next(3) {
		n.Kids = append(n.Kids, d.label(lat, levels-1))
	}
	return n
}

// row returns a row.
func (d drawer) row(lat int) api.Node {
	if d.next(3) == 0 {
		return variable(d.name(api.Row, lat), d.at())
	}
	n := api.Node{Kind: api.NodeRow, At: d.at()}
	if d.stray() {
		n.Kind = d.next(15) - 2
		n.Text = d.name(api.Row, lat)
	}
	most := 4
	if d.next(10) == 0 {
		most = 20
	}
	for i := range d.next(most) {
		f := field("f"+strconv.Itoa(i), d.at(), d.atom(lat))
		if d.stray() {
			f.Text = "f" + strconv.Itoa(d.next(i+1))
		}
		if d.stray() {
			f.Kind = d.next(15) - 2
		}
		if d.stray() {
			f.Kids = append(f.Kids, d.atom(lat))[d.next(3):]
		}
		n.Kids = append(n.Kids, f)
	}
	for n.Kind == api.NodeRow && d.next(2) == 0 && (len(n.Names) == 0 || d.stray()) {
		n.Names = append(n.Names, word(d.name(api.Row, lat), d.at()))
	}
	return n
}

// command returns an assertion or a query, or sometimes something else.
func (d drawer) command() api.Cmd {
	lat := d.next(5)
	c := api.Cmd{Op: []int{api.OpLeq, api.OpRoweq, api.OpLacks, api.OpWhy, api.OpLeq, api.OpRoweq}[d.next(6)], At: d.at(), Name: word(d.scope.Lats[lat].Name, d.at())}
	switch c.Op {
	case api.OpLeq:
		c.Left, c.Right = d.label(lat, d.next(4)), d.atom(lat)
		if d.stray() {
			c.Right = d.label(lat, 3)
		}
	case api.OpRoweq:
		c.Left, c.Right = d.row(lat), d.row(lat)
	case api.OpLacks:
		c.Name.Text, c.Names = d.name(api.Row, lat), []api.Word{word("f", d.at())}
	case api.OpWhy:
		c.Name.Text = d.name(api.Label, lat)
	}
	if d.stray() {
		c.Name.Text = d.name(1+d.next(2), lat)
	}
	if d.stray() {
		c.Op = d.next(20) - 2
	}
	return c
}

func TestDrawnCommands(t *testing.T) {
	classes := map[int]int{}
	asserted := map[int]int{}
	for _, strays := range []int{0, 5, 20, 60} {
		d := drawer{next: mixed(), scope: sample(t), strays: strays}
		for range 10000 {
			c := d.command()
			a, f := checkCommand(t, d.scope, c)
			classes[f.Class]++
			asserted[a.Op]++
			if strays == 0 && f.Class != 0 && f.Class != api.Limit {
				t.Fatalf("%q gives %v", command.Text(c), f)
			}
		}
	}
	for class, least := range map[int]int{0: 5000, api.Name: 1000, api.Sort: 1000, api.Definite: 10, api.Limit: 100} {
		if classes[class] < least {
			t.Errorf("too few of the class %d: %d", class, classes[class])
		}
	}
	for _, op := range []int{api.OpLeq, api.OpRoweq, api.OpLacks} {
		if asserted[op] < 1000 {
			t.Errorf("too few assertions with the Op %d: %d", op, asserted[op])
		}
	}
}

// In scopes that are not valid, too.
func TestDrawnCommandsInDrawnScopes(t *testing.T) {
	next := mixed()
	names := []string{"k", "p", "g", "t", "w", "x", "r", "u", "v", "z", "lo", "l", "m", ""}
	whole := sample(t)
	for range 20000 {
		// Adding what declares nothing copies a scope.
		s := scope.Add(whole, api.Cmd{})
		d := drawer{next: next, scope: s, strays: 8}
		c := d.command()
		for i := range s.Vars {
			switch next(6) {
			case 0:
				s.Vars[i].Name = names[next(len(names))]
			case 1:
				s.Vars[i].Kind = next(4)
			case 2:
				s.Vars[i].Lat = next(8) - 2
			}
		}
		for i := range s.Lats {
			switch next(8) {
			case 0:
				s.Lats[i].Name = names[next(len(names))]
			case 1:
				s.Lats[i].Shape = s.Lats[next(5)].Shape
			case 2:
				s.Lats[i].Shape.Tuple = !s.Lats[i].Shape.Tuple
			}
		}
		checkCommand(t, api.Scope{Lats: s.Lats[:next(6)], Vars: s.Vars[:next(len(s.Vars)+1)]}, c)
	}
}

// nested returns a label that contains n at a depth of so many levels.
func nested(n api.Node, levels int, kinds ...int) api.Node {
	for i := range levels {
		n = node(kinds[i%len(kinds)], 3, n)
	}
	return n
}

func TestDeepCommands(t *testing.T) {
	s := sample(t)
	x, wrong := variable("x", 1), variable("l", 70)
	for _, levels := range []int{1, 2, 23, 24, 25, 1000, deepest - 1} {
		for what, kinds := range map[string][]int{"a label": {api.NodeJoin, api.NodeMeet}, "nodes of all kinds": {api.NodeRow, 99, api.NodeField, 0, api.NodeTuple, -1, api.NodeMeet, api.NodeRule, api.NodePoint}} {
			if f := fit.Fault(s, leq(nested(x, levels, kinds...), x)); f != (api.Fault{}) {
				t.Fatalf("%s of %d levels gives %v", what, levels, f)
			}
			if f := fit.Fault(s, leq(nested(wrong, levels, kinds...), x)); f != (api.Fault{Class: api.Name, At: 70}) {
				t.Fatalf("%s of %d levels with a wrong name gives %v", what, levels, f)
			}
			if f := fit.Fault(s, leq(x, nested(variable("u", 71), levels, kinds...))); f != (api.Fault{Class: api.Sort, At: 71}) {
				t.Fatalf("%s of %d levels on the right gives %v", what, levels, f)
			}
		}
		a, is := fit.Assert(s, leq(nested(x, levels, api.NodeJoin, api.NodeMeet), x))
		if !is || len(a.Code) != levels+1 || a.Code[0] != (api.Ins{Op: api.PushVar}) || !fit.Right(s, a) {
			t.Fatalf("%d levels: %v, %d instructions", levels, is, len(a.Code))
		}
		if a, is := fit.Assert(s, leq(nested(variable("u", 1), levels, api.NodeJoin), x)); is || !alike(a, api.Assert{}) {
			t.Fatalf("%d levels of another lattice: an assertion", levels)
		}
	}
	deep := nested(point("lo", 4), deepest-10, api.NodeTuple)
	if f := fit.Fault(s, leq(constant(2, deep), x)); f != (api.Fault{Class: api.Sort, At: 3}) {
		t.Error("a deep constant gives", f)
	}
}

func TestWideCommands(t *testing.T) {
	s := sample(t)
	const n = 1 << 16
	x, hi := variable("x", 1), constant(2, point("hi", 3))
	for _, part := range []struct {
		kid    api.Node
		length int
	}{{x, 1}, {hi, 1}, {node(api.NodeMeet, 4, x, hi), 3}} {
		wide := node(api.NodeJoin, 5, slices.Repeat([]api.Node{part.kid}, n)...)
		if f := fit.Fault(s, leq(wide, x)); f != (api.Fault{}) {
			t.Fatal("a wide label gives", f)
		}
		if a, is := fit.Assert(s, leq(wide, x)); !is || len(a.Code) != n*part.length+1 || !fit.Right(s, a) {
			t.Fatal("a wide label is no assertion:", len(a.Code), is)
		}
		wide.Kids[n-1] = variable("l", 6)
		if f := fit.Fault(s, leq(wide, x)); f != (api.Fault{Class: api.Name, At: 6}) {
			t.Fatal("the last one of a wide label gives", f)
		}
	}
	// Many fields, all different but the last one; and many ends.
	many := parsedFields(n, x)
	if f := fit.Fault(s, roweq(node(api.NodeRow, 1, many...), variable("r", 1))); f != (api.Fault{Class: api.Limit}) {
		t.Error("many fields give", f)
	}
	many[n-1].Text = "f0"
	if f := fit.Fault(s, roweq(node(api.NodeRow, 1, many...), variable("r", 1))); f != (api.Fault{Class: api.Sort, At: 10 + n - 1}) {
		t.Error("many fields, two of them equal, give", f)
	}
	ends := slices.Repeat([]api.Word{word("r", 5)}, n)
	ends[n-1] = word("l", 7)
	if f := fit.Fault(s, roweq(api.Node{Kind: api.NodeRow, Names: ends}, variable("r", 1))); f != (api.Fault{Class: api.Name, At: 7}) {
		t.Error("many ends give", f)
	}
	// Many different names in a long scope.
	long := api.Scope{Lats: s.Lats, Vars: make([]api.Var, 1<<18)}
	label := node(api.NodeJoin, 1)
	for i := range long.Vars {
		long.Vars[i] = api.Var{Name: "n" + strconv.Itoa(i), Kind: api.Label, Lat: chain}
		label.Kids = append(label.Kids, variable(long.Vars[i].Name, i))
	}
	long.Vars[1<<17].Kind = api.Row
	if f := fit.Fault(long, leq(label, label.Kids[0])); f != (api.Fault{Class: api.Sort, At: 1 << 17}) {
		t.Error("a long label in a long scope gives", f)
	}
}

func TestScopesAtTheLimits(t *testing.T) {
	var lines []string
	for i := range api.MaxLats {
		lines = append(lines, "chain l"+strconv.Itoa(i)+" {a,b}")
	}
	for i := range api.MaxVars {
		lines = append(lines, []string{"label", "row"}[i/api.MaxLats%2]+" l"+strconv.Itoa(i%api.MaxLats)+" {v"+strconv.Itoa(i)+"}")
	}
	s := declared(t, lines...)
	for i := range api.MaxVars {
		v := "v" + strconv.Itoa(i)
		label := i/api.MaxLats%2 == 0
		for l := range api.MaxLats {
			lat := "l" + strconv.Itoa(l)
			own := l == i%api.MaxLats
			if a, f := checkCommand(t, s, read(t, "leq "+lat+" #b "+v)); (f == api.Fault{}) != (label && own) || f.Class == 0 && (a.Lat != l || a.To != api.Atom{Var: i}) {
				t.Errorf("the variable %d in the lattice %d: %+v, %v", i, l, a, f)
			}
			if a, f := checkCommand(t, s, read(t, "roweq "+lat+" [f=#b] "+v)); (f == api.Fault{}) != (!label && own) || f.Class == 0 && (a.Lat != l || a.B.Tail != i) {
				t.Errorf("the row %d in the lattice %d: %+v, %v", i, l, a, f)
			}
		}
		if a, f := checkCommand(t, s, read(t, "lacks "+v+" f")); (f == api.Fault{}) == label || f.Class == 0 && (a.Var != i || a.Lat != i%api.MaxLats) {
			t.Errorf("the row %d: %+v, %v", i, a, f)
		}
		if _, f := checkCommand(t, s, read(t, "why "+v)); (f == api.Fault{}) != label {
			t.Errorf("the variable %d: %v", i, f)
		}
	}
}

// P15.2: Assert.

// Instructions and atoms, in short.

func pushVar(n int) api.Ins             { return api.Ins{Op: api.PushVar, N: n} }
func pushConst(words ...uint64) api.Ins { return api.Ins{Op: api.PushConst, Const: elem(words...)} }
func join(n int) api.Ins                { return api.Ins{Op: api.DoJoin, N: n} }
func meet(n int) api.Ins                { return api.Ins{Op: api.DoMeet, N: n} }
func atom(words ...uint64) api.Atom     { return api.Atom{Var: -1, Const: elem(words...)} }
func to(v int) api.Atom                 { return api.Atom{Var: v} }
func list[T any](l ...T) []T            { return l }

func TestAssert(t *testing.T) {
	s := sample(t)
	for line, want := range map[string]api.Assert{
		"leq k x y":                         {Op: api.OpLeq, Lat: chain, Code: list(pushVar(0)), To: to(1)},
		"leq k #hi x":                       {Op: api.OpLeq, Lat: chain, Code: list(pushConst(3)), To: to(0)},
		"leq k y #mid":                      {Op: api.OpLeq, Lat: chain, Code: list(pushVar(1)), To: atom(1)},
		"leq k #hi #lo":                     {Op: api.OpLeq, Lat: chain, Code: list(pushConst(3)), To: atom()},
		"leq k +(x,&(y,#mid),#hi) y":        {Op: api.OpLeq, Lat: chain, Code: list(pushVar(0), pushVar(1), pushConst(1), meet(2), pushConst(3), join(3)), To: to(1)},
		"leq p &(a,lo) #{b}":                {Op: api.OpLeq, Lat: power, Code: list(pushVar(6), pushVar(5), meet(2)), To: atom(2)},
		"leq g #[o:{q}] o":                  {Op: api.OpLeq, Lat: grid, Code: list(pushConst(1)), To: to(8)},
		"leq t +(d,#a) #top":                {Op: api.OpLeq, Lat: table, Code: list(pushVar(10), pushConst(3), join(2)), To: atom(31)},
		"leq w #(hi,{b},[],c) z":            {Op: api.OpLeq, Lat: product, Code: list(pushConst(3, 2, 0, 9)), To: to(13)},
		"leq w z #(mid,{},[o:{q}],bot)":     {Op: api.OpLeq, Lat: product, Code: list(pushVar(13)), To: atom(1, 0, 1, 1)},
		"roweq k r s":                       {Op: api.OpRoweq, Lat: chain, A: api.RowTerm{Tail: 2}, B: api.RowTerm{Tail: 3}},
		"roweq k s s":                       {Op: api.OpRoweq, Lat: chain, A: api.RowTerm{Tail: 3}, B: api.RowTerm{Tail: 3}},
		"roweq k [] r":                      {Op: api.OpRoweq, Lat: chain, A: api.RowTerm{Tail: -1}, B: api.RowTerm{Tail: 2}},
		"roweq k [|s] []":                   {Op: api.OpRoweq, Lat: chain, A: api.RowTerm{Tail: 3}, B: api.RowTerm{Tail: -1}},
		"roweq k [f=x,e=#hi|r] [g=y,f=#lo]": {Op: api.OpRoweq, Lat: chain, A: api.RowTerm{Fields: list(api.Field{Name: "f", Atom: to(0)}, api.Field{Name: "e", Atom: atom(3)}), Tail: 2}, B: api.RowTerm{Fields: list(api.Field{Name: "g", Atom: to(1)}, api.Field{Name: "f", Atom: atom()}), Tail: -1}},
		"roweq w n [z=z,n=#(lo,{a},[],b)]":  {Op: api.OpRoweq, Lat: product, A: api.RowTerm{Tail: 14}, B: api.RowTerm{Fields: list(api.Field{Name: "z", Atom: to(13)}, api.Field{Name: "n", Atom: atom(0, 1, 0, 5)}), Tail: -1}},
		"lacks r f":                         {Op: api.OpLacks, Lat: chain, Var: 2, Field: "f"},
		"lacks n x":                         {Op: api.OpLacks, Lat: product, Var: 14, Field: "x"},
		"lacks v v":                         {Op: api.OpLacks, Lat: power, Var: 7, Field: "v"},
	} {
		c := read(t, line)
		if got, is := fit.Assert(s, c); !is || !alike(got, want) {
			t.Errorf("%q is %+v, %v; want %+v", line, got, is, want)
		}
		a, _ := checkCommand(t, s, c)
		if !fit.Right(s, a) {
			t.Errorf("%q does not fit", line)
		}
	}
}

// Commands without a fault that parsing would not return.
func TestAssertOfCommandsThatCouldNotBeParsed(t *testing.T) {
	s := sample(t)
	x, lo, r := variable("x", 1), constant(2, point("lo", 3)), variable("r", 4)
	f := []api.Word{word("f", 5)}
	for what, c := range map[string]api.Cmd{
		"a leq without sides":               leq(api.Node{}, api.Node{}),
		"a leq without a right side":        leq(x, api.Node{}),
		"a leq of a row":                    leq(node(api.NodeRow, 1), x),
		"a leq to a row":                    leq(x, node(api.NodeRow, 1)),
		"a leq of an empty join":            leq(node(api.NodeJoin, 1), x),
		"a leq of an empty constant":        leq(constant(1), x),
		"a leq to an empty constant":        leq(x, constant(1)),
		"a leq of a constant of two":        leq(constant(1, lo.Kids[0], lo.Kids[0]), x),
		"a leq of a variable with Kids":     leq(api.Node{Kind: api.NodeVar, Text: "x", Kids: list(x)}, x),
		"a leq with names":                  {Op: api.OpLeq, Name: word("k", 1), Names: f, Left: x, Right: x},
		"a leq with pairs":                  {Op: api.OpLeq, Name: word("k", 1), Pairs: [][2]api.Word{{word("a", 1), word("b", 2)}}, Left: x, Right: x},
		"a roweq without sides":             roweq(api.Node{}, api.Node{}),
		"a roweq of a constant":             roweq(lo, r),
		"a roweq of a join":                 roweq(r, node(api.NodeJoin, 1, x)),
		"a roweq with two ends":             roweq(r, api.Node{Kind: api.NodeRow, Names: []api.Word{word("r", 1), word("s", 1)}}),
		"a roweq with a variable as field":  roweq(r, node(api.NodeRow, 1, x)),
		"a roweq with an empty field":       roweq(r, node(api.NodeRow, 1, field("f", 2))),
		"a roweq with a field of two":       roweq(r, node(api.NodeRow, 1, field("f", 2, x, x))),
		"a roweq with a field of a join":    roweq(r, node(api.NodeRow, 1, field("f", 2, node(api.NodeJoin, 3, x)))),
		"a roweq with a field without name": roweq(r, node(api.NodeRow, 1, field("", 2, x))),
		"a roweq with a field of no name":   roweq(r, node(api.NodeRow, 1, field("F", 2, x))),
		"a roweq with names":                {Op: api.OpRoweq, Name: word("k", 1), Names: f, Left: r, Right: r},
		"a lacks without a field":           {Op: api.OpLacks, Name: word("r", 1)},
		"a lacks with two fields":           {Op: api.OpLacks, Name: word("r", 1), Names: []api.Word{word("f", 1), word("g", 2)}},
		"a lacks with a field of no name":   {Op: api.OpLacks, Name: word("r", 1), Names: []api.Word{word("1f", 1)}},
		"a lacks with a long field":         {Op: api.OpLacks, Name: word("r", 1), Names: []api.Word{word("f0123456789abcdef", 1)}},
		"a lacks with a side":               {Op: api.OpLacks, Name: word("r", 1), Names: f, Left: x},
		"a lacks with another side":         {Op: api.OpLacks, Name: word("r", 1), Names: f, Right: x},
	} {
		if fault := fit.Fault(s, c); fault.Class != 0 {
			t.Errorf("%s gives %v", what, fault)
		}
		if a, is := fit.Assert(s, c); is || !alike(a, api.Assert{}) {
			t.Errorf("%s is the assertion %+v", what, a)
		}
		checkCommand(t, s, c)
	}
	// Offsets do not matter.
	for _, c := range []api.Cmd{leq(x, lo), roweq(r, node(api.NodeRow, 1, field("f", 2, x))), {Op: api.OpLacks, At: -3, Name: word("r", -1), Names: f, PairsAt: 8}} {
		if a, is := fit.Assert(s, c); !is || !fit.Right(s, a) {
			t.Errorf("%q is no assertion", command.Text(c))
		}
	}
	if a, is := fit.Assert(s, api.Cmd{Op: api.OpLacks, Name: word("r", 1), Names: []api.Word{word("f0123456789abcde", 1)}}); !is || !fit.Right(s, a) {
		t.Error("a field of 16 bytes is wrong")
	}
}

// P15.3: Right.

func TestRight(t *testing.T) {
	s := sample(t)
	row := func(tail int, l ...api.Field) api.RowTerm { return api.RowTerm{Fields: l, Tail: tail} }
	f := func(name string, x api.Atom) api.Field { return api.Field{Name: name, Atom: x} }
	eq := func(a, b api.RowTerm) api.Assert { return api.Assert{Op: api.OpRoweq, Lat: chain, A: a, B: b} }
	le := func(x api.Atom, l ...api.Ins) api.Assert {
		return api.Assert{Op: api.OpLeq, Lat: chain, Code: l, To: x}
	}
	in := func(lat int, a api.Assert) api.Assert { a.Lat = lat; return a }
	var many []api.Field
	for i := range 17 {
		many = append(many, f("f"+strconv.Itoa(i), []api.Atom{to(0), atom(3)}[i%2]))
	}
	big := append(slices.Clone(many), slices.Repeat(many, 1000)...)
	for what, test := range map[string]struct {
		a    api.Assert
		want bool
	}{
		"a leq of a variable":            {le(to(1), pushVar(0)), true},
		"a leq of constants":             {le(atom(3), pushConst(1)), true},
		"a leq of a bound":               {le(to(1), pushVar(0), pushConst(3), join(2), meet(1)), true},
		"a leq in a product":             {in(product, le(atom(3, 3, 1, 31), pushVar(13), pushConst(0, 0, 0, 1), meet(2))), true},
		"a leq to a far negative number": {le(api.Atom{Var: math.MinInt, Const: elem(1)}, pushVar(0)), true},
		"what is not looked at": {api.Assert{Op: api.OpLeq, Code: list(api.Ins{Op: api.PushVar, Const: elem(9)}, api.Ins{Op: api.DoJoin, N: 1, Const: elem(9)}), To: api.Atom{Var: 1, Const: elem(9)},
			A: row(99, f("", to(99))), B: row(99), Var: -4, Field: "F"}, true},
		"a leq without code":                   {le(to(1)), false},
		"a leq with two values":                {le(to(1), pushVar(0), pushVar(1)), false},
		"a leq with too few values":            {le(to(1), pushVar(0), join(2)), false},
		"a leq with a wrong instruction":       {le(to(1), pushVar(0), api.Ins{Op: 5, N: 1}), false},
		"a leq with a zero instruction":        {le(to(1), api.Ins{}), false},
		"a leq of a row":                       {le(to(1), pushVar(2)), false},
		"a leq of another lattice":             {le(to(1), pushVar(4)), false},
		"a leq of a bound with another one":    {le(to(1), pushVar(0), pushVar(4), join(2)), false},
		"a leq of a negative variable":         {le(to(1), pushVar(-1)), false},
		"a leq of a far negative variable":     {le(to(1), pushVar(math.MinInt)), false},
		"a leq of a variable beyond the last":  {le(to(1), pushVar(15)), false},
		"a leq of a far variable":              {le(to(1), pushVar(math.MaxInt)), false},
		"a leq of no element":                  {le(to(1), pushConst(2)), false},
		"a leq of no element after one":        {le(to(1), pushConst(1), pushConst(2), join(2)), false},
		"a leq of an element beyond the width": {le(to(1), pushConst(1, 0, 1)), false},
		"a leq of an element of another one":   {in(table, le(to(10), pushConst(7))), false},
		"a leq to a row":                       {le(to(2), pushVar(0)), false},
		"a leq to another lattice":             {le(to(4), pushVar(0)), false},
		"a leq to no variable":                 {le(to(15), pushVar(0)), false},
		"a leq to no element":                  {le(atom(2), pushVar(0)), false},
		"a leq to no element that a code has":  {le(atom(5), pushConst(1)), false},
		"a leq in a negative lattice":          {in(-1, le(to(0), pushVar(0))), false},
		"a leq in no lattice":                  {in(5, le(to(0), pushVar(0))), false},
		"a leq in a far lattice":               {in(math.MaxInt, le(to(0), pushVar(0))), false},
		"a leq in the wrong lattice":           {in(power, le(to(0), pushVar(0))), false},
		"constants in the wrong lattice":       {in(table, le(atom(3), pushConst())), false},

		"a roweq of rows":                        {eq(row(2), row(3)), true},
		"a roweq of no rows":                     {eq(row(-1), row(-1)), true},
		"a roweq of a far negative row":          {eq(row(math.MinInt), row(-2)), true},
		"a roweq of fields":                      {eq(row(2, f("f", to(0)), f("e", atom(3))), row(-1, f("f", atom()))), true},
		"a roweq in a product":                   {in(product, eq(row(14, f("f", atom(0, 0, 0, 1))), row(14, f("f", to(13))))), true},
		"as many fields as there may be":         {eq(row(2, many[:16]...), row(2, many[1:]...)), true},
		"fields that are not looked at":          {api.Assert{Op: api.OpRoweq, A: row(2), B: row(3), Code: list(api.Ins{}), To: atom(7), Var: -1, Field: "1"}, true},
		"a constant's number":                    {eq(row(2, f("f", api.Atom{Var: math.MinInt, Const: elem(1)})), row(2)), true},
		"a variable's constant":                  {eq(row(2, f("f", api.Atom{Var: 1, Const: elem(9)})), row(2)), true},
		"one field more than there may be":       {eq(row(2, many...), row(2)), false},
		"one field more in the second row":       {eq(row(2), row(2, many...)), false},
		"a great number of fields":               {eq(row(2, big...), row(2)), false},
		"a roweq of a label":                     {eq(row(0), row(3)), false},
		"a roweq of a label in the second row":   {eq(row(3), row(1)), false},
		"a roweq of another lattice":             {eq(row(2), row(7)), false},
		"a roweq of a row beyond the last":       {eq(row(15), row(2)), false},
		"a field without a name":                 {eq(row(2, f("", to(0))), row(2)), false},
		"a field of no name":                     {eq(row(2), row(2, f("f", to(0)), f("f-", to(0)))), false},
		"a field of a long name":                 {eq(row(2, f("f0123456789abcdef", to(0))), row(2)), false},
		"a field twice":                          {eq(row(2, f("f", to(0)), f("g", to(0)), f("f", to(0))), row(2)), false},
		"a field twice in the second row":        {eq(row(2), row(2, f("f", to(0)), f("f", to(0)))), false},
		"a field in both rows":                   {eq(row(2, f("f", to(0))), row(2, f("f", to(0)))), true},
		"a field with a row":                     {eq(row(2, f("f", to(2))), row(2)), false},
		"a field with a label of another one":    {eq(row(2, f("f", to(4))), row(2)), false},
		"a field with no variable":               {eq(row(2, f("f", to(15))), row(2)), false},
		"a field with no element":                {eq(row(2, f("f", atom(2))), row(2)), false},
		"the second field with no element":       {eq(row(2), row(2, f("f", atom(3)), f("g", atom(4)))), false},
		"a roweq in no lattice":                  {in(5, eq(row(-1), row(-1))), false},
		"a roweq in a negative lattice":          {in(-1, eq(row(-1), row(-1))), false},
		"a roweq in another lattice":             {in(power, eq(row(-1), row(2))), false},
		"a roweq without rows in any lattice":    {in(table, eq(row(-1), row(-1))), true},
		"a roweq of variables with the number 0": {api.Assert{Op: api.OpRoweq}, false},

		"a lacks":                        {api.Assert{Op: api.OpLacks, Lat: chain, Var: 2, Field: "f"}, true},
		"a lacks in a product":           {api.Assert{Op: api.OpLacks, Lat: product, Var: 14, Field: "f0123456789abcde"}, true},
		"a lacks with other parts":       {api.Assert{Op: api.OpLacks, Lat: chain, Var: 3, Field: "f", Code: list(api.Ins{}), To: to(99), A: row(99), B: row(99, f("", to(99)))}, true},
		"a lacks of a label":             {api.Assert{Op: api.OpLacks, Lat: chain, Var: 0, Field: "f"}, false},
		"a lacks in another lattice":     {api.Assert{Op: api.OpLacks, Lat: power, Var: 2, Field: "f"}, false},
		"a lacks in no lattice":          {api.Assert{Op: api.OpLacks, Lat: 5, Var: 2, Field: "f"}, false},
		"a lacks in a negative lattice":  {api.Assert{Op: api.OpLacks, Lat: -1, Var: 2, Field: "f"}, false},
		"a lacks of no variable":         {api.Assert{Op: api.OpLacks, Lat: chain, Var: 15, Field: "f"}, false},
		"a lacks of a negative variable": {api.Assert{Op: api.OpLacks, Lat: chain, Var: -1, Field: "f"}, false},
		"a lacks of a far variable":      {api.Assert{Op: api.OpLacks, Lat: chain, Var: math.MaxInt, Field: "f"}, false},
		"a lacks without a field":        {api.Assert{Op: api.OpLacks, Lat: chain, Var: 2}, false},
		"a lacks of no name":             {api.Assert{Op: api.OpLacks, Lat: chain, Var: 2, Field: "_f"}, false},
		"a lacks of a long name":         {api.Assert{Op: api.OpLacks, Lat: chain, Var: 2, Field: "f0123456789abcdef"}, false},
	} {
		if got := checkRight(t, s, test.a); got != test.want {
			t.Errorf("that %s fits is %v", what, got)
		}
	}
	if fit.Right(api.Scope{}, api.Assert{}) || fit.Right(api.Scope{}, eq(row(-1), row(-1))) || fit.Right(s, api.Assert{}) {
		t.Error("something fits that does not")
	}
}

func TestRightWithOtherOps(t *testing.T) {
	s := sample(t)
	for _, a := range []api.Assert{
		{Lat: chain, Code: list(pushVar(0)), To: to(1), A: api.RowTerm{Tail: 2}, B: api.RowTerm{Tail: 3}, Var: 2, Field: "f"},
		{Lat: product, Code: list(pushVar(13)), To: to(13), A: api.RowTerm{Tail: -1}, B: api.RowTerm{Tail: 14}, Var: 14, Field: "f"},
	} {
		for _, op := range []int{api.OpLeq, api.OpRoweq, api.OpLacks} {
			if a.Op = op; !checkRight(t, s, a) {
				t.Errorf("with the Op %d %+v does not fit", op, a)
			}
		}
		for _, op := range []int{math.MinInt, -1, 0, 1, 2, 3, 4, 5, 6, 7, 11, 12, 13, 14, 15, 16, math.MaxInt} {
			if a.Op = op; checkRight(t, s, a) {
				t.Errorf("with the Op %d %+v fits", op, a)
			}
		}
	}
}

// Right looks at nothing of a scope but what the assertion is about.
func TestRightInScopesThatAreNotValid(t *testing.T) {
	s := sample(t)
	s.Lats = append(s.Lats, api.Lat{Name: "k"}, api.Lat{})
	s.Vars = append(s.Vars, api.Var{Kind: api.Label, Lat: 5}, api.Var{Name: "x", Kind: api.Row, Lat: 5}, api.Var{Kind: api.Row, Lat: -3}, api.Var{Kind: api.Row, Lat: 99}, api.Var{Kind: 3}, api.Var{Kind: 0}, api.Var{Kind: api.Label, Lat: -1}, api.Var{Kind: api.Label, Lat: 7})
	for what, test := range map[string]struct {
		a    api.Assert
		want bool
	}{
		"variables of a lattice that is not valid": {api.Assert{Op: api.OpLeq, Lat: 5, Code: list(pushVar(15)), To: to(15)}, true},
		"an element of one":                        {api.Assert{Op: api.OpLeq, Lat: 5, Code: list(pushVar(15)), To: atom()}, false},
		"an element of one as a code":              {api.Assert{Op: api.OpLeq, Lat: 5, Code: list(pushConst()), To: to(15)}, false},
		"a row of one":                             {api.Assert{Op: api.OpRoweq, Lat: 5, A: api.RowTerm{Tail: 16}, B: api.RowTerm{Fields: list(api.Field{Name: "f", Atom: to(15)}), Tail: -1}}, true},
		"a row of one with an element":             {api.Assert{Op: api.OpRoweq, Lat: 5, A: api.RowTerm{Tail: 16}, B: api.RowTerm{Fields: list(api.Field{Name: "f", Atom: atom()}), Tail: -1}}, false},
		"a row without a lattice":                  {api.Assert{Op: api.OpLacks, Lat: -3, Var: 17, Field: "f"}, true},
		"a row of a lattice that does not exist":   {api.Assert{Op: api.OpLacks, Lat: 99, Var: 18, Field: "f"}, true},
		"a row of such a lattice in a roweq":       {api.Assert{Op: api.OpRoweq, Lat: 99, A: api.RowTerm{Tail: 18}, B: api.RowTerm{Tail: 18}}, false},
		"a row of a negative lattice in a roweq":   {api.Assert{Op: api.OpRoweq, Lat: -3, A: api.RowTerm{Tail: 17}, B: api.RowTerm{Tail: 17}}, false},
		"a variable of the kind 3":                 {api.Assert{Op: api.OpLeq, Code: list(pushVar(19)), To: to(0)}, false},
		"a variable of no kind":                    {api.Assert{Op: api.OpLeq, Code: list(pushVar(0)), To: to(20)}, false},
		"a row of the kind 3":                      {api.Assert{Op: api.OpRoweq, A: api.RowTerm{Tail: 19}, B: api.RowTerm{Tail: 2}}, false},
		"a row of no kind":                         {api.Assert{Op: api.OpLacks, Var: 20, Field: "f"}, false},
		"a label of a negative lattice":            {api.Assert{Op: api.OpLeq, Lat: -1, Code: list(pushVar(21)), To: to(21)}, false},
		"a label of the lattice after the last":    {api.Assert{Op: api.OpLeq, Lat: 7, Code: list(pushVar(22)), To: to(22)}, false},
	} {
		if got := checkRight(t, s, test.a); got != test.want {
			t.Errorf("that %s fits is %v", what, got)
		}
	}
	if fit.Right(api.Scope{Lats: s.Lats, Vars: s.Vars[:1]}, api.Assert{Op: api.OpLeq, Code: list(pushVar(1)), To: to(0)}) {
		t.Error("a variable beyond the length fits")
	}
	if fit.Right(api.Scope{Lats: s.Lats[:1], Vars: s.Vars}, api.Assert{Op: api.OpRoweq, Lat: 1, A: api.RowTerm{Tail: -1}, B: api.RowTerm{Tail: -1}}) {
		t.Error("a lattice beyond the length exists")
	}
}

// marred returns the assertion with one part changed, in memory of its own.
func marred(next func(n int) int, a api.Assert) api.Assert {
	number := func() int { return next(20) - 3 }
	element := func() api.Elem { return elem(uint64(next(6)), uint64(next(6)), uint64(next(2)), uint64(next(8))) }
	atom := func() api.Atom { return api.Atom{Var: next(16) - 1, Const: element()} }
	row := func(t api.RowTerm) api.RowTerm {
		t.Fields = slices.Clone(t.Fields)
		switch i := next(len(t.Fields) + 3); {
		case i < len(t.Fields) && next(2) == 0:
			t.Fields[i].Atom = atom()
		case i < len(t.Fields):
			t.Fields[i].Name = []string{"", "F", "f0", "f1", "f2", "f3"}[next(6)]
		case i == len(t.Fields):
			t.Tail = number()
		default:
			for range next(17) {
				t.Fields = append(t.Fields, api.Field{Name: "g" + strconv.Itoa(next(1000)), Atom: atom()})
			}
		}
		return t
	}
	switch next(9) {
	case 0:
		a.Op = next(16)
	case 1:
		a.Lat = number()
	case 2:
		a.To = atom()
	case 3:
		a.Var = number()
	case 4:
		a.Field = []string{"", "f", "F", "1", "f0123456789abcde", "f0123456789abcdef"}[next(6)]
	case 5:
		a.A = row(a.A)
	case 6:
		a.B = row(a.B)
	default:
		if a.Code = slices.Clone(a.Code); len(a.Code) > 0 {
			a.Code[next(len(a.Code))] = api.Ins{Op: 1 + next(4), N: next(16) - 1, Const: element()}
		}
	}
	return a
}

func TestRightOfMarredAssertions(t *testing.T) {
	d := drawer{next: mixed(), scope: sample(t)}
	fits := map[bool]int{}
	for range 60000 {
		a, is := fit.Assert(d.scope, d.command())
		if !is {
			continue
		}
		for range 1 + d.next(3) {
			a = marred(d.next, a)
		}
		fits[checkRight(t, d.scope, a)]++
	}
	if fits[true] < 1000 || fits[false] < 1000 {
		t.Error("too few of a kind:", fits)
	}
}

func TestRightOfLongCodes(t *testing.T) {
	names := []string{}
	for i := range api.MaxPoints {
		names = append(names, "n"+strconv.Itoa(i))
	}
	var pairs []string
	for i := range api.MaxPoints - 1 {
		pairs = append(pairs, names[i]+"<"+names[i+1])
	}
	s := declared(t, "table t {"+strings.Join(names, ",")+"} {"+strings.Join(pairs, ",")+"}", "product w {t,t,t,t,t,t,t,t}", "label w {x}")
	const n = 1 << 18
	top := shape.Top(s.Lats[1].Shape)
	a := api.Assert{Op: api.OpLeq, Lat: 1, Code: append(slices.Repeat(list(api.Ins{Op: api.PushConst, Const: top}, pushVar(0)), n), join(2*n)), To: to(0)}
	if !fit.Right(s, a) {
		t.Error("a long code does not fit")
	}
	a.Code[2*n-2].Const[7] = 2
	if fit.Right(s, a) {
		t.Error("the last constant of a long code is no element")
	}
	a.Code[2*n-2].Const = top
	a.Code[2*n-1].N = 1
	if fit.Right(s, a) {
		t.Error("the last variable of a long code does not exist")
	}
}

// P15.4: the laws.

func TestAssertionsFit(t *testing.T) {
	d := drawer{next: mixed(), scope: sample(t), strays: 40}
	if !scope.Right(d.scope) {
		t.Fatal("the scope is not valid")
	}
	asserted := 0
	for range 20000 {
		if a, is := fit.Assert(d.scope, d.command()); is {
			asserted++
			if !fit.Right(d.scope, a) {
				t.Fatalf("%+v does not fit", a)
			}
		}
	}
	if asserted < 5000 {
		t.Error("too few assertions:", asserted)
	}
}

// Memory.

// frozen returns a copy of a node.
func frozen(n api.Node) api.Node {
	n.Names = append([]api.Word(nil), n.Names...)
	kids := n.Kids
	n.Kids = nil
	for _, kid := range kids {
		n.Kids = append(n.Kids, frozen(kid))
	}
	return n
}

func TestArgumentsAreOnlyRead(t *testing.T) {
	s, same := sample(t), sample(t)
	for _, line := range []string{"leq k +(x,&(#hi,y)) #mid", "leq w #(lo,{a,b},[o:{q}],a) z", "roweq k [f=x,g=#hi|r] [h=y|s]", "roweq p v [f=#{b,a}]", "lacks r f", "why x", "leq k r +(l)", "roweq k [f=x,f=x|l] x"} {
		c := read(t, line)
		left, right, names := frozen(c.Left), frozen(c.Right), slices.Clone(c.Names)
		fit.Fault(s, c)
		a, _ := fit.Assert(s, c)
		b, _ := fit.Assert(s, c)
		fit.Right(s, a)
		if !reflect.DeepEqual(frozen(c.Left), left) || !reflect.DeepEqual(frozen(c.Right), right) || !slices.Equal(c.Names, names) || !reflect.DeepEqual(s, same) {
			t.Errorf("%q changes an argument", line)
		}
		if !reflect.DeepEqual(a, b) {
			t.Errorf("%q: Right changes its argument", line)
		}
	}
	// Beyond the lengths stand things that would be wrong.
	x, wrong := variable("x", 1), variable("l", 2)
	kids := list(x, wrong)
	if f := fit.Fault(s, leq(node(api.NodeJoin, 3, kids[:1]...), x)); f != (api.Fault{}) {
		t.Error("a Kid beyond the length gives", f)
	}
	ends := list(word("r", 3), word("l", 4))
	if f := fit.Fault(s, roweq(api.Node{Kind: api.NodeRow, Names: ends[:1], Kids: list(field("f", 1, x), field("f", 2, x))[:1]}, variable("r", 5))); f != (api.Fault{}) {
		t.Error("a name or a field beyond the length gives", f)
	}
	code := list(pushVar(0), api.Ins{})
	fields := list(api.Field{Name: "f", Atom: to(0)}, api.Field{Name: "f", Atom: to(99)})
	if !fit.Right(s, api.Assert{Op: api.OpLeq, Code: code[:1], To: to(0)}) || !fit.Right(s, api.Assert{Op: api.OpRoweq, A: api.RowTerm{Fields: fields[:1], Tail: 2}, B: api.RowTerm{Tail: 2}}) {
		t.Error("what is beyond the length is read")
	}
	if code[1] != (api.Ins{}) || fields[1] != (api.Field{Name: "f", Atom: to(99)}) || kids[1].Text != "l" || ends[1].Text != "l" {
		t.Error("what is beyond the length is changed")
	}
}

// overlap reports whether the memory of two lists overlaps, with what is beyond their lengths.
func overlap[T any](a, b []T) bool {
	var one T
	from, size := func(l []T) uintptr { return uintptr(unsafe.Pointer(unsafe.SliceData(l))) }, unsafe.Sizeof(one)
	return from(a) < from(b)+uintptr(cap(b))*size && from(b) < from(a)+uintptr(cap(a))*size
}

func TestResultsShareNoMemory(t *testing.T) {
	s := sample(t)
	for _, line := range []string{"leq k +(x,#hi) y", "roweq k [f=x,g=#hi|r] [f=x,g=#hi|r]"} {
		c := read(t, line)
		a, _ := fit.Assert(s, c)
		b, _ := fit.Assert(s, c)
		if overlap(a.Code, b.Code) || overlap(a.A.Fields, b.A.Fields) || overlap(a.B.Fields, b.B.Fields) || overlap(a.A.Fields, a.B.Fields) {
			t.Errorf("%q: two lists share memory", line)
		}
		for i := range a.Code {
			a.Code[i] = api.Ins{Op: 9}
		}
		for i := range a.A.Fields {
			a.A.Fields[i] = api.Field{Name: "changed"}
		}
		if again, _ := fit.Assert(s, c); !alike(again, b) || !slices.Equal(a.B.Fields, b.B.Fields) {
			t.Errorf("%q: a changed result changes another one", line)
		}
	}
}
