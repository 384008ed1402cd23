package scope_test

import (
	"math"
	"reflect"
	"regexp"
	"slices"
	"sort"
	"strconv"
	"strings"
	"testing"
	"unsafe"

	"clearance/api"
	"clearance/command"
	"clearance/hasse"
	"clearance/scope"
	"clearance/shape"
)

// ops has the numbers of all commands, and some that are no command's.
var ops = []int{0, 1, 2, 3, 4, 5, 6, 7, 8, 9, 10, 11, 12, 13, 14, 15, 16, -1, -5, 99, math.MinInt, math.MaxInt}

// none is the fault that reports that there is none.
var none = api.Fault{}

// parsed returns the command of a line.
func parsed(t *testing.T, line string) api.Cmd {
	t.Helper()
	c, f := command.Read(line)
	if f != none {
		t.Fatalf("%q gives %v", line, f)
	}
	return c
}

// added returns s with what the lines declare, none of which may have a fault.
func added(t *testing.T, s api.Scope, lines ...string) api.Scope {
	t.Helper()
	for _, line := range lines {
		c := parsed(t, line)
		if f := scope.Fault(s, c); f != none {
			t.Fatalf("%q gives %v", line, f)
		}
		s = scope.Add(s, c)
	}
	return s
}

// sample returns a scope with lattices of 1, 1, 1 and 3 factors, two labels and a row.
func sample(t *testing.T) api.Scope {
	return added(t, api.Scope{}, "chain k {lo,hi}", "power p {a,b}", "grid g {o,q} {o<q}", "product w {k,p,g}", "label k {x,y}", "row p {r}")
}

// words returns words with these texts, the first one at 10 and each further one 10 bytes later.
func words(l ...string) []api.Word {
	var w []api.Word
	for i, s := range l {
		w = append(w, api.Word{Text: s, At: 10 * (i + 1)})
	}
	return w
}

// numbered returns n different names.
func numbered(n int) []string {
	var l []string
	for i := range n {
		l = append(l, "n"+strconv.Itoa(i))
	}
	return l
}

// list returns the names in braces.
func list(l ...string) string {
	return "{" + strings.Join(l, ",") + "}"
}

// ladder returns pairs that put each name below the next one, in braces.
func ladder(l ...string) string {
	var pairs []string
	for i := range len(l) - 1 {
		pairs = append(pairs, l[i]+"<"+l[i+1])
	}
	return list(pairs...)
}

// full returns a scope with so many lattices, of one factor each, and so many variables.
func full(lats, vars int) api.Scope {
	var s api.Scope
	for i := range lats {
		f := api.Factor{Kind: api.Chain, Names: []string{"a", "b"}}
		s.Lats = append(s.Lats, api.Lat{Name: "lat" + strconv.Itoa(i), Shape: api.Shape{Factors: []api.Factor{f}}})
	}
	for i := range vars {
		s.Vars = append(s.Vars, api.Var{Name: "var" + strconv.Itoa(i), Kind: 1 + i%2, Lat: i % max(lats, 1)})
	}
	return s
}

// copyOf returns s in new memory; an empty list is like none.
func copyOf(s api.Scope) api.Scope {
	c := api.Scope{Lats: []api.Lat{}, Vars: append([]api.Var{}, s.Vars...)}
	for _, l := range s.Lats {
		c.Lats = append(c.Lats, api.Lat{Name: l.Name, Shape: copyOfShape(l.Shape)})
	}
	return c
}

// copyOfShape is copyOf for a shape.
func copyOfShape(s api.Shape) api.Shape {
	c := api.Shape{Tuple: s.Tuple, Factors: []api.Factor{}}
	for _, f := range s.Factors {
		f.Names = append([]string{}, f.Names...)
		c.Factors = append(c.Factors, f)
	}
	return c
}

// equal reports whether a and b are equal in every bit.
func equal(a, b api.Scope) bool {
	return reflect.DeepEqual(copyOf(a), copyOf(b))
}

// equalShapes is equal for shapes.
func equalShapes(a, b api.Shape) bool {
	return reflect.DeepEqual(copyOfShape(a), copyOfShape(b))
}

// The model follows the definitions word by word.

// modelLeast sorts the faults.
func modelLeast(l []api.Fault) api.Fault {
	var real []api.Fault
	for _, f := range l {
		if f.Class != 0 {
			real = append(real, f)
		}
	}
	if len(real) == 0 {
		return none
	}
	sort.SliceStable(real, func(i, j int) bool {
		if real[i].Class != real[j].Class {
			return real[i].Class < real[j].Class
		}
		return real[i].At < real[j].At
	})
	return real[0]
}

// isLat reports whether a lattice has this name, and isVar whether a variable has.
func isLat(s api.Scope, text string) bool {
	for _, l := range s.Lats {
		if l.Name == text {
			return true
		}
	}
	return false
}

func isVar(s api.Scope, text string) bool {
	for _, v := range s.Vars {
		if v.Name == text {
			return true
		}
	}
	return false
}

// among reports whether text is the text of one of the words.
func among(l []api.Word, text string) bool {
	for _, w := range l {
		if w.Text == text {
			return true
		}
	}
	return false
}

// modelRel returns the closure of the relation of the Names and the Pairs.
func modelRel(c api.Cmd) api.Rel {
	n := min(len(c.Names), 64)
	var below [64][64]bool
	for i := range n {
		below[i][i] = true
	}
	for _, p := range c.Pairs {
		place := [2]int{-1, -1}
		for side := range 2 {
			for i := len(c.Names) - 1; i >= 0; i-- {
				if c.Names[i].Text == p[side].Text {
					place[side] = i
				}
			}
		}
		if min(place[0], place[1]) >= 0 && max(place[0], place[1]) < n {
			below[place[0]][place[1]] = true
		}
	}
	for k := range n {
		for i := range n {
			for j := range n {
				below[i][j] = below[i][j] || below[i][k] && below[k][j]
			}
		}
	}
	r := api.Rel{N: n}
	for i := range n {
		for j := range n {
			if below[i][j] {
				r.Up[i] += 1 << j
			}
		}
	}
	return r
}

// modelShape returns the declared lattice.
func modelShape(s api.Scope, c api.Cmd) api.Shape {
	var f api.Factor
	for _, w := range c.Names {
		f.Names = append(f.Names, w.Text)
	}
	switch c.Op {
	case api.OpChain:
		f.Kind = api.Chain
	case api.OpPower:
		f.Kind = api.Power
	case api.OpGrid:
		f.Kind, f.Rel = api.Grid, modelRel(c)
	case api.OpTable:
		f.Kind, f.Rel = api.Table, modelRel(c)
	case api.OpProduct:
		p := api.Shape{Tuple: true}
		for _, w := range c.Names {
			for _, l := range s.Lats {
				if l.Name == w.Text {
					p.Factors = append(p.Factors, l.Shape.Factors...)
					break
				}
			}
		}
		return p
	default:
		return api.Shape{}
	}
	return api.Shape{Factors: []api.Factor{f}}
}

// modelFaults lists every fault of a declaration, in the order of the promise.
func modelFaults(s api.Scope, c api.Cmd) []api.Fault {
	var l []api.Fault
	when := func(is bool, class, at int) {
		if is {
			l = append(l, api.Fault{Class: class, At: at})
		}
	}
	live := func(text string) bool { return isLat(s, text) || isVar(s, text) }
	lattice := c.Op >= 1 && c.Op <= 5
	vars := c.Op == 6 || c.Op == 7
	if !lattice && !vars {
		return nil
	}
	when(lattice && live(c.Name.Text) || vars && !live(c.Name.Text), 3, c.Name.At)
	when(vars && isVar(s, c.Name.Text) && !isLat(s, c.Name.Text), 4, c.Name.At)
	for i, w := range c.Names {
		when(c.Op != 3 && among(c.Names[:i], w.Text), 3, w.At)
		when(vars && live(w.Text), 3, w.At)
		when(c.Op == 3 && !live(w.Text), 3, w.At)
		when(c.Op == 3 && isVar(s, w.Text) && !isLat(s, w.Text), 4, w.At)
	}
	for _, p := range c.Pairs {
		when(!among(c.Names, p[0].Text), 3, p[0].At)
		when(!among(c.Names, p[1].Text), 3, p[1].At)
	}
	when(c.Op == 5 && len(c.Names) <= 64 && !hasse.Lattice(modelRel(c)), 5, c.PairsAt)
	when((c.Op == 1 || c.Op == 2 || c.Op == 5) && len(c.Names) > 64, 7, c.At)
	when(c.Op == 4 && len(c.Names) > 8, 7, c.At)
	when(c.Op == 3 && len(modelShape(s, c).Factors) > 8, 7, c.At)
	when(lattice && len(s.Lats) >= 16, 7, c.At)
	when(vars && len(s.Vars)+len(c.Names) > 64, 7, c.At)
	return l
}

// modelAdd returns the scope with what c declares.
func modelAdd(s api.Scope, c api.Cmd) api.Scope {
	n := copyOf(s)
	if c.Op < 1 || c.Op > 7 || len(modelFaults(s, c)) > 0 {
		return n
	}
	if c.Op <= 5 {
		n.Lats = append(n.Lats, api.Lat{Name: c.Name.Text, Shape: copyOfShape(modelShape(s, c))})
		return n
	}
	for i := len(s.Lats) - 1; i >= 0; i-- {
		if s.Lats[i].Name == c.Name.Text {
			n.Vars = n.Vars[:len(s.Vars)]
			for _, w := range c.Names {
				n.Vars = append(n.Vars, api.Var{Name: w.Text, Kind: c.Op - 5, Lat: i})
			}
		}
	}
	return n
}

// isName follows the definition of a name.
var isName = regexp.MustCompile(`\A[a-z][a-z0-9_]{0,15}\z`).MatchString

// modelRight reports whether s is valid.
func modelRight(s api.Scope) bool {
	seen := map[string]bool{}
	right := len(s.Lats) <= 16 && len(s.Vars) <= 64
	take := func(text string) {
		right = right && isName(text) && !seen[text]
		seen[text] = true
	}
	for _, l := range s.Lats {
		take(l.Name)
		right = right && shape.Right(l.Shape)
	}
	for _, v := range s.Vars {
		take(v.Name)
		right = right && (v.Kind == 1 || v.Kind == 2) && v.Lat >= 0 && v.Lat < len(s.Lats)
	}
	return right
}

// check compares Shape, Fault and Add with the model.
func check(t *testing.T, s api.Scope, c api.Cmd) {
	t.Helper()
	if got, want := scope.Shape(s, c), modelShape(s, c); !equalShapes(got, want) {
		t.Fatalf("%v in %v declares %v, want %v", c, s, got, want)
	}
	if got, want := scope.Fault(s, c), modelLeast(modelFaults(s, c)); got != want {
		t.Fatalf("%v in %v gives %v, want %v", c, s, got, want)
	}
	if got, want := scope.Add(s, c), modelAdd(s, c); !equal(got, want) {
		t.Fatalf("%v added to %v gives %v, want %v", c, s, got, want)
	}
}

// mixed returns a function that returns numbers below its argument, in an order that is fixed but mixed.
func mixed() func(n int) int {
	x := uint64(1)
	return func(n int) int {
		x = x*6364136223846793005 + 1442695040888963407
		return int(x>>33) % n
	}
}

// texts has names and other texts, of which commands and scopes are drawn.
var texts = []string{"a", "b", "c", "d", "k", "l", "x", "y", "", "A", "1", "abcdefghijklmnopq", "a b"}

// drawnShape returns a shape, which may not be valid.
func drawnShape(next func(n int) int) api.Shape {
	s := api.Shape{Tuple: next(2) == 0}
	for range []int{1, 1, 1, 0, 2, 3, 8, 9}[next(8)] {
		r := api.Rel{N: []int{0, 1, 2, 3, -1, 65}[next(6)]}
		for i := range r.Up {
			r.Up[i] = uint64(next(16)) << next(64)
		}
		s.Factors = append(s.Factors, api.Factor{Kind: next(6), Names: numbered(next(4)), Rel: r})
	}
	return s
}

// drawnScope returns a scope, which may not be valid.
func drawnScope(next func(n int) int) api.Scope {
	var s api.Scope
	lats, vars := next(5), next(5)
	if next(8) == 0 {
		lats = 14 + next(4)
	}
	if next(8) == 0 {
		vars = 58 + next(9)
	}
	for i := range lats {
		text := texts[next(len(texts))]
		if i > 5 {
			text = "lat" + strconv.Itoa(i)
		}
		s.Lats = append(s.Lats, api.Lat{Name: text, Shape: drawnShape(next)})
	}
	for i := range vars {
		text := texts[next(len(texts))]
		if i > 5 {
			text = "var" + strconv.Itoa(i)
		}
		s.Vars = append(s.Vars, api.Var{Name: text, Kind: next(4), Lat: next(6) - 1})
	}
	return s
}

// drawnWord returns a word that is a text, or one of the names of the scope.
func drawnWord(next func(n int) int, s api.Scope) api.Word {
	l := slices.Clone(texts)
	for _, lat := range s.Lats {
		l = append(l, lat.Name, lat.Name)
	}
	return api.Word{Text: l[next(len(l))], At: next(40) - 5}
}

// drawn returns a command, which parsing may not return.
func drawn(next func(n int) int, s api.Scope) api.Cmd {
	c := api.Cmd{Op: 1 + next(7), At: next(40) - 5, PairsAt: next(40) - 5, Name: drawnWord(next, s)}
	if next(10) == 0 {
		c.Op = ops[next(len(ops))]
	}
	n := next(5)
	if next(6) == 0 {
		n = []int{7, 8, 9, 10, 63, 64, 65, 66}[next(8)]
	}
	for i := range n {
		w := drawnWord(next, s)
		// A long list of few texts would always have a fault.
		if n > 6 && (c.Op != 3 && next(200) > 0) || n <= 6 && next(3) == 0 {
			w.Text = "n" + strconv.Itoa(i)
		}
		c.Names = append(c.Names, w)
	}
	for i := range n {
		// Most names are in the order of the list, so that some tables are lattices.
		if next(8) > 0 && i > 0 {
			c.Pairs = append(c.Pairs, [2]api.Word{{Text: c.Names[i-1].Text, At: next(40)}, {Text: c.Names[i].Text, At: next(40)}})
		} else if next(3) == 0 {
			c.Pairs = append(c.Pairs, [2]api.Word{{Text: c.Names[next(n)].Text, At: next(40)}, drawnWord(next, s)})
		}
	}
	return c
}

// P13.1: Least, Find.

func TestLeast(t *testing.T) {
	for _, c := range []struct {
		l    []api.Fault
		want api.Fault
	}{
		{nil, none},
		{[]api.Fault{{}}, none},
		{[]api.Fault{{Class: 0, At: 5}, {Class: 0, At: -5}}, none},
		{[]api.Fault{{Class: 7, At: 5}}, api.Fault{Class: 7, At: 5}},
		{[]api.Fault{{Class: 7, At: 5}, {Class: 3, At: 9}}, api.Fault{Class: 3, At: 9}},
		{[]api.Fault{{Class: 3, At: 9}, {Class: 7, At: 5}}, api.Fault{Class: 3, At: 9}},
		{[]api.Fault{{Class: 3, At: 9}, {Class: 3, At: 8}, {Class: 3, At: 10}}, api.Fault{Class: 3, At: 8}},
		{[]api.Fault{{}, {Class: 8, At: 0}, {}}, api.Fault{Class: 8, At: 0}},
		{[]api.Fault{{Class: 0, At: 1}, {Class: 4, At: 7}, {Class: 0, At: 0}, {Class: 4, At: 7}}, api.Fault{Class: 4, At: 7}},
		{[]api.Fault{{Class: 1, At: 0}, {Class: -1, At: 3}}, api.Fault{Class: -1, At: 3}},
		{[]api.Fault{{Class: 1, At: 0}, {Class: 1, At: -3}}, api.Fault{Class: 1, At: -3}},
		{[]api.Fault{{Class: math.MaxInt, At: math.MaxInt}}, api.Fault{Class: math.MaxInt, At: math.MaxInt}},
		{[]api.Fault{{Class: math.MaxInt, At: 0}, {Class: math.MinInt, At: math.MaxInt}, {Class: math.MinInt, At: math.MinInt}}, api.Fault{Class: math.MinInt, At: math.MinInt}},
	} {
		if got := scope.Least(c.l...); got != c.want {
			t.Errorf("of %v the least is %v, want %v", c.l, got, c.want)
		}
	}
	if scope.Least() != none {
		t.Error("of no faults there is a least one")
	}
}

func TestLeastOfAllShortLists(t *testing.T) {
	var all []api.Fault
	for class := range 4 {
		for at := range 3 {
			all = append(all, api.Fault{Class: class - 1, At: at - 1})
		}
	}
	for _, a := range all {
		for _, b := range all {
			for _, c := range all {
				for _, l := range [][]api.Fault{{a}, {a, b}, {a, b, c}, {a, b, c, a}} {
					if got := scope.Least(l...); got != modelLeast(l) {
						t.Fatalf("of %v the least is %v", l, got)
					}
				}
			}
		}
	}
}

func TestLeastOfLongLists(t *testing.T) {
	l := make([]api.Fault, 1<<20)
	for i := range l {
		l[i] = api.Fault{Class: 3 + i%2, At: len(l) - i}
	}
	if got := scope.Least(l...); got != (api.Fault{Class: 3, At: 2}) {
		t.Error(got)
	}
}

func TestLeastOnlyReads(t *testing.T) {
	l := []api.Fault{{Class: 4, At: 4}, {Class: 3, At: 8}, {Class: 1, At: 1}}
	if got := scope.Least(l[:2]...); got != (api.Fault{Class: 3, At: 8}) {
		t.Error("what is beyond the length is read:", got)
	}
	if !slices.Equal(l, []api.Fault{{Class: 4, At: 4}, {Class: 3, At: 8}, {Class: 1, At: 1}}) {
		t.Error("the list has become", l)
	}
}

func TestFind(t *testing.T) {
	s := sample(t)
	for text, want := range map[string][2]int{
		"k": {0, -1}, "p": {1, -1}, "g": {2, -1}, "w": {3, -1}, "x": {-1, 0}, "y": {-1, 1}, "r": {-1, 2},
		"": {-1, -1}, "lo": {-1, -1}, "a": {-1, -1}, "K": {-1, -1}, "kk": {-1, -1}, "k ": {-1, -1}, "#": {-1, -1},
	} {
		if lat, v := scope.Find(s, text); lat != want[0] || v != want[1] {
			t.Errorf("%q has the numbers %d and %d", text, lat, v)
		}
		if lat, v := scope.Find(api.Scope{}, text); lat != -1 || v != -1 {
			t.Errorf("in the empty scope %q has the numbers %d and %d", text, lat, v)
		}
	}
}

// The first one of several counts, and a lattice does not hide a variable of the same name.
func TestFindTheFirstOne(t *testing.T) {
	s := api.Scope{
		Lats: []api.Lat{{Name: "a"}, {Name: "b"}, {Name: "a"}, {Name: ""}, {Name: "A b"}, {Name: ""}, {Name: "hidden"}}[:6],
		Vars: []api.Var{{Name: "c"}, {Name: "b"}, {Name: "b"}, {Name: ""}, {Name: "c"}, {Name: "hidden"}}[:5],
	}
	for text, want := range map[string][2]int{"a": {0, -1}, "b": {1, 1}, "c": {-1, 0}, "": {3, 3}, "A b": {4, -1}, "hidden": {-1, -1}} {
		if lat, v := scope.Find(s, text); lat != want[0] || v != want[1] {
			t.Errorf("%q has the numbers %d and %d", text, lat, v)
		}
	}
}

func TestFindInFullScopes(t *testing.T) {
	s := full(300, 500)
	for i := range 500 {
		if lat, v := scope.Find(s, "var"+strconv.Itoa(i)); lat != -1 || v != i {
			t.Error(i, lat, v)
		}
		if lat, v := scope.Find(s, "lat"+strconv.Itoa(i)); v != -1 || i < 300 && lat != i || i >= 300 && lat != -1 {
			t.Error(i, lat, v)
		}
	}
}

// P13.2: Shape.

func TestShapeOfEachDeclaration(t *testing.T) {
	s := sample(t)
	chain := api.Factor{Kind: 1, Names: []string{"lo", "hi"}}
	power := api.Factor{Kind: 2, Names: []string{"a", "b"}}
	grid := api.Factor{Kind: 3, Names: []string{"o", "q"}, Rel: api.Rel{N: 2, Up: [64]uint64{3, 2}}}
	one := func(f api.Factor) api.Shape { return api.Shape{Factors: []api.Factor{f}} }
	tuple := func(l ...api.Factor) api.Shape { return api.Shape{Tuple: true, Factors: l} }
	for line, want := range map[string]api.Shape{
		"chain n {lo,hi}":                one(chain),
		"power n {a,b}":                  one(power),
		"grid n {o,q} {o<q}":             one(grid),
		"grid n {a} {}":                  one(api.Factor{Kind: 3, Names: []string{"a"}, Rel: api.Rel{N: 1, Up: [64]uint64{1}}}),
		"grid n {a,b} {a<b,b<a}":         one(api.Factor{Kind: 3, Names: []string{"a", "b"}, Rel: api.Rel{N: 2, Up: [64]uint64{3, 3}}}),
		"grid n {a,b,c} {c<b,b<a}":       one(api.Factor{Kind: 3, Names: []string{"a", "b", "c"}, Rel: api.Rel{N: 3, Up: [64]uint64{1, 3, 7}}}),
		"table n {a,b,c} {a<b,b<c}":      one(api.Factor{Kind: 4, Names: []string{"a", "b", "c"}, Rel: api.Rel{N: 3, Up: [64]uint64{7, 6, 4}}}),
		"table n {a,b} {}":               one(api.Factor{Kind: 4, Names: []string{"a", "b"}, Rel: api.Rel{N: 2, Up: [64]uint64{1, 2}}}),
		"table n {a,b,a} {a<b}":          one(api.Factor{Kind: 4, Names: []string{"a", "b", "a"}, Rel: api.Rel{N: 3, Up: [64]uint64{3, 2, 4}}}),
		"table n {a,b} {a<z,z<b,y<z}":    one(api.Factor{Kind: 4, Names: []string{"a", "b"}, Rel: api.Rel{N: 2, Up: [64]uint64{1, 2}}}),
		"chain n {a,a,k}":                one(api.Factor{Kind: 1, Names: []string{"a", "a", "k"}}),
		"chain k {a}":                    one(api.Factor{Kind: 1, Names: []string{"a"}}),
		"product n {k}":                  tuple(chain),
		"product n {p,k}":                tuple(power, chain),
		"product n {k,k}":                tuple(chain, chain),
		"product n {w}":                  tuple(chain, power, grid),
		"product n {g,w,k}":              tuple(grid, chain, power, grid, chain),
		"product n {w,w,w,w}":            tuple(chain, power, grid, chain, power, grid, chain, power, grid, chain, power, grid),
		"product n {z,k,x,n,p,lo,r}":     tuple(chain, power),
		"product n {x}":                  tuple(),
		"label k {z}":                    {},
		"row p {z}":                      {},
		"leq k x #lo":                    {},
		"roweq p r [a=#{}]":              {},
		"lacks r f":                      {},
		"push":                           {},
		"pop":                            {},
		"check":                          {},
		"core":                           {},
		"why x":                          {},
		"":                               {},
		"table chain {chain} {}  -- one": one(api.Factor{Kind: 4, Names: []string{"chain"}, Rel: api.Rel{N: 1, Up: [64]uint64{1}}}),
	} {
		c := parsed(t, line)
		if got := scope.Shape(s, c); !equalShapes(got, want) {
			t.Errorf("%q declares %v, want %v", line, got, want)
		}
		check(t, s, c)
	}
}

// All fields of a command are there, but only those of its number count.
func TestShapeOfEachNumber(t *testing.T) {
	s := sample(t)
	c := api.Cmd{Name: words("n")[0], Names: words("k", "x", "p", "p"), Pairs: [][2]api.Word{{{Text: "k"}, {Text: "p"}}, {{Text: "q"}, {Text: "k"}}}}
	for _, op := range ops {
		c.Op = op
		got := scope.Shape(s, c)
		if got.Tuple != (op == 3) || (len(got.Factors) > 0) != (op >= 1 && op <= 5) {
			t.Errorf("the number %d declares %v", op, got)
		}
		check(t, s, c)
	}
}

func TestShapeOfLongLists(t *testing.T) {
	for _, n := range []int{0, 1, 8, 9, 63, 64, 65, 66, 128, 5000} {
		l := numbered(n)
		c := api.Cmd{Names: words(l...)}
		for i := range n {
			// What is no point's index is below nothing: 64 is between no two others.
			c.Pairs = append(c.Pairs, [2]api.Word{{Text: l[i]}, {Text: l[n-1]}}, [2]api.Word{{Text: l[i]}, {Text: l[(i+1)%n]}})
		}
		for _, op := range []int{1, 2, 4, 5} {
			c.Op = op
			got := scope.Shape(api.Scope{}, c)
			if len(got.Factors) != 1 || !slices.Equal(got.Factors[0].Names, l) {
				t.Fatalf("%d names: %v", n, got)
			}
			points := min(n, 64)
			if op < 3 {
				points = 0
			}
			if got.Factors[0].Rel.N != points {
				t.Errorf("%d names, number %d: %d points", n, op, got.Factors[0].Rel.N)
			}
			if op > 3 {
				if want := modelRel(api.Cmd{Names: c.Names[:min(n, 70)], Pairs: c.Pairs[:min(len(c.Pairs), 140)]}); got.Factors[0].Rel != want {
					t.Errorf("%d names: the relation %b, want %b", n, got.Factors[0].Rel, want)
				}
			}
		}
	}
}

// A product has the factors of lattices that are not valid, too, as they are; of several lattices of a name the first one counts.
func TestShapeOfProductsOfAnyLattices(t *testing.T) {
	soiled := api.Factor{Kind: 9, Names: []string{"", "A", ""}, Rel: api.Rel{N: -3, Up: [64]uint64{5, 63: math.MaxUint64}}}
	s := api.Scope{Lats: []api.Lat{
		{Name: "a", Shape: api.Shape{Factors: []api.Factor{soiled, soiled}}},
		{Name: "a", Shape: api.Shape{Factors: []api.Factor{{Kind: 1}}}},
		{Name: "", Shape: api.Shape{Tuple: true, Factors: []api.Factor{{Kind: 2}}}},
		{Name: "e"},
	}}
	got := scope.Shape(s, api.Cmd{Op: 3, Names: words("a", "e", "", "b")})
	if want := (api.Shape{Tuple: true, Factors: []api.Factor{soiled, soiled, {Kind: 2}}}); !equalShapes(got, want) {
		t.Errorf("%v, want %v", got, want)
	}
	if got := scope.Shape(s, api.Cmd{Op: 3}); !got.Tuple || len(got.Factors) != 0 {
		t.Error(got)
	}
}

// P13.3: Fault.

func TestFaults(t *testing.T) {
	s := sample(t)
	for _, c := range []struct {
		line      string
		class, at int
	}{
		{"chain n {a}", 0, 0}, {"chain n {n,k,x,r}", 0, 0}, {"power n {k,n}", 0, 0}, {"grid n {n,x} {x<n}", 0, 0}, {"table n {x} {}", 0, 0}, {"table n {x} {x<x}", 0, 0},
		{"chain k {a}", 3, 6}, {"chain x {a}", 3, 6}, {"power r {a}", 3, 6}, {"  product w {k}", 3, 10}, {"grid g {a} {}", 3, 5}, {"table y {a} {}", 3, 6}, {"chain lo {a}", 0, 0}, {"chain kk {a}", 0, 0},
		{"chain n {a,b,a}", 3, 13}, {"chain n {a,a,a}", 3, 11}, {"chain n {a,b,b,a}", 3, 13}, {"power n {b, b}", 3, 12}, {"grid n {a,a} {}", 3, 10}, {"table n {a,a} {}", 3, 11}, {"chain k {a,a}", 3, 6},
		{"product n {k}", 0, 0}, {"product n {k,k}", 0, 0}, {"product n {w,g,p,k}", 0, 0}, {"product n {k,n}", 3, 13}, {"product n {z,k}", 3, 11}, {"product n {z,z}", 3, 11},
		{"product n {x}", 4, 11}, {"product n {k,r}", 4, 13}, {"product n {y,x}", 4, 11}, {"product n {x,z}", 3, 13}, {"product k {x}", 3, 8}, {"product x {k}", 3, 8}, {"product x {x}", 3, 8}, {"product n {lo}", 3, 11},
		{"product n {w,w,k,k}", 0, 0}, {"product n {w,w,w}", 7, 0}, {" product n {w,w,k,k,k}", 7, 1}, {"product n {w,w,w,x}", 4, 17}, {"product n {w,w,w,z}", 3, 17}, {"product n {k,k,k,k,k,k,k,k}", 0, 0}, {"product n {k,k,k,k,k,k,k,k,k}", 7, 0},
		{"grid n {a,b} {}", 0, 0}, {"grid n {a,b} {a<b}", 0, 0}, {"grid n {a,b} {a<b,b<a,a<a}", 0, 0}, {"grid n {a,b} {a<c}", 3, 16}, {"grid n {a,b} {c<a}", 3, 14}, {"grid n {a,b} {c<d}", 3, 14}, {"grid n {a,b} {a<b,b<k}", 3, 20}, {"grid n {a,b} {n<a}", 3, 14}, {"grid n {a,a} {c<a}", 3, 10}, {"grid x {a} {c<a}", 3, 5},
		{"table t {a,b} {}", 5, 14}, {"table t {a,b} {a<b}", 0, 0}, {"table t {a,b} {b<a}", 0, 0}, {"table t {a,b} {a<b,b<a}", 5, 14}, {"table t {a,b}   {a<a}", 5, 16}, {"table t {a} {}", 0, 0},
		{"table t {a,b,c,d} {a<b,a<c,b<d,c<d}", 0, 0}, {"table t {a,b,c} {a<b,a<c}", 5, 16}, {"table t {a,b,c} {a<c,b<c}", 5, 16}, {"table t {a,b,c} {a<b,b<c}", 0, 0}, {"table t {a,b,c} {a<b,b<c,c<a}", 5, 16},
		{"table t {o,a,b,c,d,i} {o<a,o<b,a<c,a<d,b<c,b<d,c<i,d<i}", 5, 22}, {"table t {o,a,b,c,i} {o<a,o<b,o<c,a<i,b<i,c<i}", 0, 0},
		{"table t {a,b,a} {a<b}", 3, 13}, {"table t {a,b} {c<d}", 3, 15}, {"table t {a,b} {a<b,b<c}", 3, 21}, {"table k {a,b} {}", 3, 6},
		{"label k {z}", 0, 0}, {"label w {z,lo,a}", 0, 0}, {"row k {z}", 0, 0}, {"row g {z,u}", 0, 0},
		{"label z {u}", 3, 6}, {"row z {u}", 3, 4}, {"label lo {u}", 3, 6}, {"label z {z}", 3, 6}, {"label x {u}", 4, 6}, {"row r {u}", 4, 4}, {"row x {u}", 4, 4}, {"label x {u,u}", 3, 11}, {"label x {x}", 3, 9},
		{"label k {x}", 3, 9}, {"label k {k}", 3, 9}, {"label p {k}", 3, 9}, {"label k {u,r}", 3, 11}, {"row k {u,w,x}", 3, 9}, {"label k {u,u}", 3, 11}, {"row k {u,v,u}", 3, 11}, {"label k {x,u,u}", 3, 9}, {"label k {u,u,x}", 3, 11}, {"label z {x}", 3, 6}, {"label k {u,u,u}", 3, 11},
		{"", 0, 0}, {"push", 0, 0}, {"pop", 0, 0}, {"check", 0, 0}, {"core", 0, 0}, {"why z", 0, 0}, {"leq z z #z", 0, 0}, {"leq k x +(x)", 0, 0}, {"roweq x z []", 0, 0}, {"lacks z z", 0, 0},
	} {
		cmd := parsed(t, c.line)
		if got := scope.Fault(s, cmd); got != (api.Fault{Class: c.class, At: c.at}) {
			t.Errorf("%q gives %v, want %d at %d", c.line, got, c.class, c.at)
		}
		check(t, s, cmd)
	}
}

func TestNumbersOfNames(t *testing.T) {
	s := full(3, 2)
	for n := 1; n <= 70; n++ {
		l := numbered(n)
		for _, c := range []struct {
			line string
			most int
		}{
			{"chain n " + list(l...), 64}, {"power n " + list(l...), 64}, {"grid n " + list(l...) + " {}", 8}, {"grid n " + list(l...) + ladder(l...), 8}, {"table n " + list(l...) + ladder(l...), 64},
			{"label lat1 " + list(l...), 62}, {"row lat1 " + list(l...), 62}, {"product n " + list(slices.Repeat([]string{"lat1"}, n)...), 8},
		} {
			want := none
			if n > c.most {
				want = api.Fault{Class: api.Limit, At: 2}
			}
			cmd := parsed(t, "  "+c.line)
			if got := scope.Fault(s, cmd); got != want {
				t.Errorf("%q gives %v", c.line, got)
			}
			check(t, s, cmd)
		}
		// A table of unrelated points is a fault of its order, as long as there are not too many of them.
		want := api.Fault{Class: api.Order, At: len("table n " + list(l...))}
		if n == 1 {
			want = none
		} else if n > 64 {
			want = api.Fault{Class: api.Limit, At: 0}
		}
		if got := scope.Fault(s, parsed(t, "table n "+list(l...)+"{}")); got != want {
			t.Errorf("a table of %d unrelated names gives %v", n, got)
		}
	}
}

func TestNumbersOfLattices(t *testing.T) {
	for n := range 20 {
		s := full(n, 0)
		lines := []string{"chain n {a}", "power n {a}", "grid n {a} {}", "table n {a} {}"}
		if n > 0 {
			lines = append(lines, "product n {lat0}")
			for _, line := range []string{"label lat0 {x}", "row lat0 {x}"} {
				if got := scope.Fault(s, parsed(t, line)); got != none {
					t.Errorf("after %d lattices %q gives %v", n, line, got)
				}
			}
		}
		for _, line := range lines {
			want := none
			if n >= 16 {
				want = api.Fault{Class: api.Limit, At: 1}
			}
			c := parsed(t, " "+line)
			if got := scope.Fault(s, c); got != want {
				t.Errorf("after %d lattices %q gives %v", n, line, got)
			}
			check(t, s, c)
		}
	}
}

func TestNumbersOfVariables(t *testing.T) {
	for n := range 70 {
		s := full(2, n)
		for more := 1; more <= 70; more += 1 + more/3 {
			for _, word := range []string{"label", "row"} {
				want := none
				if n+more > 64 {
					want = api.Fault{Class: api.Limit, At: 0}
				}
				c := parsed(t, word+" lat1 "+list(numbered(more)...))
				if got := scope.Fault(s, c); got != want {
					t.Errorf("%d more variables after %d: %v", more, n, got)
				}
				check(t, s, c)
			}
		}
		for _, line := range []string{"chain n {a}", "power n {a}", "product n {lat0}", "grid n {a} {}", "table n {a} {}"} {
			if got := scope.Fault(s, parsed(t, line)); got != none {
				t.Errorf("after %d variables %q gives %v", n, line, got)
			}
		}
	}
}

// The factors of a product are counted, not its lattices.
func TestNumbersOfFactors(t *testing.T) {
	s := api.Scope{}
	for n := range 11 {
		var p api.Shape
		for range n {
			p.Factors = append(p.Factors, api.Factor{Kind: api.Power, Names: []string{"a"}})
		}
		s.Lats = append(s.Lats, api.Lat{Name: "l" + strconv.Itoa(n), Shape: p})
	}
	for i := range 11 {
		for j := range 11 {
			for k := range 11 {
				want := none
				if i+j+k > 8 {
					want = api.Fault{Class: api.Limit, At: 3}
				}
				c := api.Cmd{Op: 3, At: 3, Name: words("n")[0], Names: words("l"+strconv.Itoa(i), "l"+strconv.Itoa(j), "l"+strconv.Itoa(k))}
				if got := scope.Fault(s, c); got != want {
					t.Errorf("a product of %d, %d and %d factors gives %v", i, j, k, got)
				}
			}
		}
	}
}

func TestClassesPrecedeOffsets(t *testing.T) {
	s := full(16, 64)
	for _, c := range []struct {
		line      string
		class, at int
	}{
		{"chain n {a}", 7, 0}, {"chain n {a,a}", 3, 11}, {"chain lat3 {a}", 3, 6}, {"chain var9 {a}", 3, 6},
		{"table n {a,b} {}", 5, 14}, {"table n {a,b} {a<b}", 7, 0}, {"table n {a,b} {a<c}", 3, 17},
		{"table n " + list(numbered(65)...) + " {}", 7, 0}, {"grid n {a,b,c,d,e,f,g,h,i} {a<z}", 3, 30},
		{"product n {var1}", 4, 11}, {"product n {var1,z}", 3, 16}, {"product n {lat1}", 7, 0},
		{"label lat1 {x}", 7, 0}, {"label var1 {x}", 4, 6}, {"label var1 {x,x}", 3, 14}, {"row lat1 {var63}", 3, 10}, {"row x {x}", 3, 4},
	} {
		cmd := parsed(t, c.line)
		if got := scope.Fault(s, cmd); got != (api.Fault{Class: c.class, At: c.at}) {
			t.Errorf("%q gives %v, want %d at %d", c.line, got, c.class, c.at)
		}
		check(t, s, cmd)
	}
}

// Offsets of commands that were not parsed can have any order: the least one counts, not the first one.
func TestLeastOffsets(t *testing.T) {
	s := sample(t)
	at := func(text string, at int) api.Word { return api.Word{Text: text, At: at} }
	for _, c := range []struct {
		c         api.Cmd
		class, at int
	}{
		{api.Cmd{Op: 1, Name: at("k", 50), Names: []api.Word{at("a", 1), at("a", 40), at("a", 30), at("b", 2)}}, 3, 30},
		{api.Cmd{Op: 2, Name: at("k", 20), Names: []api.Word{at("a", 1), at("a", 40)}}, 3, 20},
		{api.Cmd{Op: 3, Name: at("n", 9), Names: []api.Word{at("z", 7), at("k", 1), at("u", 5)}}, 3, 5},
		{api.Cmd{Op: 3, Name: at("n", 9), Names: []api.Word{at("x", 7), at("k", 1), at("r", -5)}}, 4, -5},
		{api.Cmd{Op: 4, Name: at("n", 9), Names: []api.Word{at("a", 7)}, Pairs: [][2]api.Word{{at("u", 30), at("v", 20)}, {at("a", 1), at("u", 25)}}}, 3, 20},
		{api.Cmd{Op: 5, At: -9, PairsAt: -7, Name: at("n", 9), Names: []api.Word{at("a", 7), at("b", 1)}}, 5, -7},
		{api.Cmd{Op: 6, Name: at("z", 90), Names: []api.Word{at("k", 70), at("x", 60), at("u", 1), at("u", 80)}}, 3, 60},
		{api.Cmd{Op: 7, Name: at("x", 90), Names: []api.Word{at("u", 70), at("v", 60)}}, 4, 90},
		{api.Cmd{Op: 3, At: math.MaxInt, Name: at("n", 9), Names: words("w", "w", "w")}, 7, math.MaxInt},
		{api.Cmd{Op: 3, At: math.MinInt, Name: at("n", 9), Names: []api.Word{at("z", math.MaxInt)}}, 3, math.MaxInt},
	} {
		if got := scope.Fault(s, c.c); got != (api.Fault{Class: c.class, At: c.at}) {
			t.Errorf("%v gives %v, want %d at %d", c.c, got, c.class, c.at)
		}
		check(t, s, c.c)
	}
}

// Of commands that could not be parsed, only what the promises mention is a fault.
func TestCommandsThatCouldNotBeParsed(t *testing.T) {
	s := sample(t)
	pair := [][2]api.Word{{{Text: "a", At: 70}, {Text: "z", At: 80}}}
	for _, c := range []struct {
		c         api.Cmd
		class, at int
	}{
		{api.Cmd{Op: 1}, 0, 0}, {api.Cmd{Op: 2}, 0, 0}, {api.Cmd{Op: 3}, 0, 0}, {api.Cmd{Op: 4}, 0, 0},
		{api.Cmd{Op: 5, PairsAt: 6}, 5, 6},
		{api.Cmd{Op: 6, Name: api.Word{At: 4}}, 3, 4},
		{api.Cmd{Op: 7, Name: words("k")[0]}, 0, 0},
		{api.Cmd{Op: 1, Name: words("A b")[0], Names: words("", "1", "abcdefghijklmnopq")}, 0, 0},
		{api.Cmd{Op: 1, Names: words("", "")}, 3, 20},
		{api.Cmd{Op: 7, Name: words("k")[0], Names: words("", "#")}, 0, 0},
		{api.Cmd{Op: 1, Name: words("n")[0], Names: words("a"), Pairs: pair}, 3, 80},
		{api.Cmd{Op: 2, Name: words("n")[0], Names: words("z"), Pairs: pair}, 3, 70},
		{api.Cmd{Op: 3, Name: words("n")[0], Names: words("k"), Pairs: pair}, 3, 70},
		{api.Cmd{Op: 6, Name: words("k")[0], Names: words("u"), Pairs: pair}, 3, 70},
		{api.Cmd{Op: 7, Name: words("k")[0], Names: words("a", "z"), Pairs: pair}, 0, 0},
		{api.Cmd{Op: 1, Name: words("n")[0], Names: words("a", "b"), PairsAt: 5, Left: api.Node{Kind: 3}, Right: api.Node{Kind: -1}}, 0, 0},
	} {
		if got := scope.Fault(s, c.c); got != (api.Fault{Class: c.class, At: c.at}) {
			t.Errorf("%v gives %v, want %d at %d", c.c, got, c.class, c.at)
		}
		check(t, s, c.c)
	}
	for _, op := range ops {
		c := api.Cmd{Op: op, At: 5, Name: words("k")[0], Names: words("z", "z", "x"), Pairs: pair}
		if got := scope.Fault(s, c); (got != none) != (op >= 1 && op <= 7) {
			t.Errorf("the number %d gives %v", op, got)
		}
		check(t, s, c)
	}
}

func TestMixedCommandsInMixedScopes(t *testing.T) {
	next := mixed()
	right, faults := 0, map[int]int{}
	for range 8000 {
		s := drawnScope(next)
		for range 3 {
			c := drawn(next, s)
			check(t, s, c)
			f := scope.Fault(s, c)
			faults[f.Class]++
			if f == none && c.Op >= 1 && c.Op <= 7 {
				right++
			}
		}
	}
	if right < 1000 || faults[3] < 1000 || faults[4] < 100 || faults[5] < 100 || faults[7] < 100 {
		t.Error("too few of a kind:", right, faults)
	}
}

// Names are looked up, not compared one with another: long lists take time in proportion to their length.
func TestLongLists(t *testing.T) {
	const n = 1 << 18
	l := numbered(n)
	var pairs [][2]api.Word
	for i := range n {
		pairs = append(pairs, [2]api.Word{{Text: l[n-1-i]}, {Text: l[i]}})
	}
	s := full(n/8, n)
	last := "lat" + strconv.Itoa(n/8-1)
	for _, c := range []struct {
		c     api.Cmd
		class int
	}{
		{api.Cmd{Op: 1, Names: words(l...)}, 7},
		{api.Cmd{Op: 2, Names: append(words(l...), api.Word{Text: l[n-1]})}, 3},
		{api.Cmd{Op: 4, Names: words(l...), Pairs: pairs}, 7},
		{api.Cmd{Op: 5, Names: words(l...), Pairs: pairs}, 7},
		{api.Cmd{Op: 5, Names: words(l[:n-1]...), Pairs: pairs}, 3},
		{api.Cmd{Op: 6, Name: words(last)[0], Names: words(l...)}, 7},
		{api.Cmd{Op: 7, Name: words(last)[0], Names: append(words(l...), api.Word{Text: "var" + strconv.Itoa(n-1)})}, 3},
		{api.Cmd{Op: 3, Names: words(slices.Repeat([]string{last}, n)...)}, 7},
		{api.Cmd{Op: 3, Names: words(slices.Repeat([]string{"var" + strconv.Itoa(n-1)}, n)...)}, 4},
		{api.Cmd{Op: 3, Names: words(l...)}, 3},
	} {
		if got := scope.Fault(s, c.c); got.Class != c.class {
			t.Errorf("the number %d gives %v, want the class %d", c.c.Op, got, c.class)
		}
	}
	if scope.Right(s) {
		t.Error("a scope with too many variables is valid")
	}
	if got := scope.Add(s, api.Cmd{Op: 1, Names: words(l...)}); len(got.Lats) != n/8 || len(got.Vars) != n {
		t.Error("a scope has changed", len(got.Lats), len(got.Vars))
	}
}

// A product that is too large to be made has a fault like any other that is too large.
func TestFaultOfAnEnormousProduct(t *testing.T) {
	wide := api.Lat{Name: "k", Shape: api.Shape{Factors: make([]api.Factor, 1<<16)}}
	c := api.Cmd{Op: 3, At: 4, Name: words("n")[0], Names: words(slices.Repeat([]string{"k"}, 1<<16)...)}
	if got := scope.Fault(api.Scope{Lats: []api.Lat{wide}}, c); got != (api.Fault{Class: api.Limit, At: 4}) {
		t.Error(got)
	}
}

// P13.4: Add.

func TestAdd(t *testing.T) {
	chain := api.Shape{Factors: []api.Factor{{Kind: 1, Names: []string{"a", "b"}}}}
	table := api.Shape{Factors: []api.Factor{{Kind: 4, Names: []string{"c", "d"}, Rel: api.Rel{N: 2, Up: [64]uint64{3, 2}}}}}
	product := api.Shape{Tuple: true, Factors: []api.Factor{table.Factors[0], chain.Factors[0]}}
	want := api.Scope{}
	s := api.Scope{}
	for _, step := range []struct {
		line string
		lats []api.Lat
		vars []api.Var
	}{
		{"check", nil, nil},
		{"chain k {a,b}", []api.Lat{{Name: "k", Shape: chain}}, nil},
		{"chain k {a}", nil, nil},
		{"table t {c,d} {c<d}", []api.Lat{{Name: "t", Shape: table}}, nil},
		{"label t {x,y}", nil, []api.Var{{Name: "x", Kind: 1, Lat: 1}, {Name: "y", Kind: 1, Lat: 1}}},
		{"label t {z,y}", nil, nil},
		{"row k {r}", nil, []api.Var{{Name: "r", Kind: 2, Lat: 0}}},
		{"row x {s}", nil, nil},
		{"product p {t,k}", []api.Lat{{Name: "p", Shape: product}}, nil},
		{"product q {t,x}", nil, nil},
		{"row p {v,u}", nil, []api.Var{{Name: "v", Kind: 2, Lat: 2}, {Name: "u", Kind: 2, Lat: 2}}},
		{"label k {w}", nil, []api.Var{{Name: "w", Kind: 1, Lat: 0}}},
		{"leq k x w", nil, nil},
		{"push", nil, nil},
		{"", nil, nil},
		{"table n {a,b} {}", nil, nil},
	} {
		s = scope.Add(s, parsed(t, step.line))
		want.Lats, want.Vars = append(want.Lats, step.lats...), append(want.Vars, step.vars...)
		if !equal(s, want) {
			t.Fatalf("after %q: %v, want %v", step.line, s, want)
		}
		if !scope.Right(s) {
			t.Fatalf("after %q the scope is not valid", step.line)
		}
	}
}

func TestExample1(t *testing.T) {
	s := added(t, api.Scope{}, "chain k {a,b}", "label k {x}")
	if lat, v := scope.Find(s, "x"); lat != -1 || v != 0 {
		t.Error(lat, v)
	}
	if f := scope.Fault(s, parsed(t, "label k {x}")); f.Class != api.Name {
		t.Error(f)
	}
}

func TestExample4OfTheWhole(t *testing.T) {
	if f := scope.Fault(api.Scope{}, parsed(t, "table t {a,b} {}")); f != (api.Fault{Class: api.Order, At: 14}) {
		t.Error(f)
	}
}

// A variable belongs to the first lattice of the name, and a command that could not be parsed is added if it has no fault.
func TestAddToScopesThatAreNotValid(t *testing.T) {
	s := api.Scope{Lats: []api.Lat{{Name: "a"}, {Name: "k"}, {Name: "k"}}, Vars: []api.Var{{Name: "k", Kind: 7, Lat: -4}}}
	got := scope.Add(s, api.Cmd{Op: 6, Name: words("k")[0], Names: words("x", "")})
	if want := append(slices.Clone(s.Vars), api.Var{Name: "x", Kind: 1, Lat: 1}, api.Var{Name: "", Kind: 1, Lat: 1}); !slices.Equal(got.Vars, want) || len(got.Lats) != 3 {
		t.Error(got)
	}
	got = scope.Add(s, api.Cmd{Op: 3, Names: words("a", "k")})
	if len(got.Lats) != 4 || !got.Lats[3].Shape.Tuple || got.Lats[3].Name != "" || len(got.Vars) != 1 {
		t.Error(got)
	}
	if got = scope.Add(s, api.Cmd{Op: 7, Name: words("k")[0]}); !equal(got, s) {
		t.Error(got)
	}
}

// span is where the memory of a list begins and ends, with what lies beyond its length.
type span struct{ begin, end uintptr }

func spanOf[T any](l []T) span {
	var one T
	begin := uintptr(unsafe.Pointer(unsafe.SliceData(l)))
	return span{begin, begin + uintptr(cap(l))*unsafe.Sizeof(one)}
}

// spansOf returns the memory of the lists of a shape.
func spansOf(s api.Shape) []span {
	l := []span{spanOf(s.Factors)}
	for _, f := range s.Factors {
		l = append(l, spanOf(f.Names))
	}
	return l
}

// spansOfScope returns the memory of the lists of s.
func spansOfScope(s api.Scope) []span {
	l := []span{spanOf(s.Lats), spanOf(s.Vars)}
	for _, lat := range s.Lats {
		l = append(l, spansOf(lat.Shape)...)
	}
	return l
}

// apart fails if two of the lists share memory.
func apart(t *testing.T, what string, l []span) {
	t.Helper()
	for i, s := range l {
		for _, u := range l[:i] {
			if s.begin < u.end && u.begin < s.end {
				t.Fatalf("%s: two lists share memory", what)
			}
		}
	}
}

func TestResultsShareNoMemory(t *testing.T) {
	s := sample(t)
	// There is room beyond the lengths, into which a careless append would write.
	s.Lats, s.Vars = slices.Grow(s.Lats, 9), slices.Grow(s.Vars, 9)
	for i := range s.Lats {
		p := &s.Lats[i].Shape
		p.Factors = slices.Grow(p.Factors, 3)
		for k := range p.Factors {
			p.Factors[k].Names = slices.Grow(p.Factors[k].Names, 3)
		}
	}
	for _, line := range []string{"chain n {a,b}", "power n {a,b}", "grid n {a,b} {}", "table n {a,b} {a<b}", "product n {w,k,k,w}", "label k {u,v}", "row k {u}", "chain k {a}", "label k {x}", "check", ""} {
		c := parsed(t, line)
		apart(t, line, slices.Concat(spansOfScope(s), spansOfScope(scope.Add(s, c)), spansOf(scope.Shape(s, c)), spansOf(scope.Shape(s, c)), []span{spanOf(c.Names), spanOf(c.Pairs)}))
	}
}

func TestWhatIsChangedLaterDoesNotMatter(t *testing.T) {
	s := sample(t)
	c := parsed(t, "table n {a,b} {a<b}")
	grown := scope.Add(s, c)
	before := copyOf(grown)
	s.Lats[0].Name = "other"
	s.Lats[3].Shape.Factors[1].Names[0] = "other"
	s.Lats[3].Shape.Factors[2].Kind = 9
	s.Vars[1].Lat = 77
	c.Names[0].Text = "other"
	if !equal(grown, before) {
		t.Errorf("%v has become %v", before, grown)
	}
}

func TestArgumentsAreOnlyRead(t *testing.T) {
	// Beyond the lengths stand things that would be faults.
	factors := []api.Factor{{Kind: 1, Names: []string{"a", "b", "a"}[:2]}, {Kind: 9}}
	s := api.Scope{
		Lats: []api.Lat{{Name: "k", Shape: api.Shape{Factors: factors[:1]}}, {Name: "n"}},
		Vars: []api.Var{{Name: "x", Kind: 1}, {Name: "u", Kind: 9, Lat: 9}},
	}
	short := api.Scope{Lats: s.Lats[:1], Vars: s.Vars[:1]}
	for op, names := range map[int][]string{1: {"a", "b", "a"}, 2: {"a", "b", "a"}, 3: {"k", "k", "z"}, 4: {"a", "b", "a"}, 5: {"a", "b", "a"}, 6: {"u", "v", "x"}, 7: {"u", "v", "v"}} {
		l := words(names...)
		c := api.Cmd{Op: op, Name: words("n")[0], Names: l[:2]}
		if op > 5 {
			c.Name.Text = "k"
		}
		pairs := [][2]api.Word{{l[0], l[1]}, {{Text: "none"}, {Text: "none"}}}
		c.Pairs = pairs[:1]
		if got := scope.Fault(short, c); got != none {
			t.Errorf("the number %d gives %v", op, got)
		}
		grown := scope.Add(short, c)
		if len(grown.Lats)+len(grown.Vars) < 3 {
			t.Errorf("the number %d adds nothing", op)
		}
		scope.Shape(short, c)
		scope.Find(short, "n")
		if !scope.Right(short) {
			t.Error("the scope is not valid")
		}
		if !slices.Equal(l, words(names...)) || pairs[0] != [2]api.Word{l[0], l[1]} || pairs[1][0].Text != "none" {
			t.Errorf("the number %d changes its command", op)
		}
		if s.Lats[0].Name != "k" || s.Lats[1].Name != "n" || s.Vars[0] != (api.Var{Name: "x", Kind: 1}) || s.Vars[1] != (api.Var{Name: "u", Kind: 9, Lat: 9}) || factors[1].Kind != 9 || !slices.Equal(factors[0].Names[:3], []string{"a", "b", "a"}) {
			t.Errorf("the number %d changes its scope", op)
		}
	}
}

// P13.5: Right.

func TestRight(t *testing.T) {
	for what, change := range map[string]func(s *api.Scope){
		"nothing":                 func(s *api.Scope) {},
		"a name of a lattice":     func(s *api.Scope) { s.Lats[1].Name = "abcdefghijklmnop" },
		"a row":                   func(s *api.Scope) { s.Vars[0].Kind = 2 },
		"another lattice":         func(s *api.Scope) { s.Vars[0].Lat = 3 },
		"no variables":            func(s *api.Scope) { s.Vars = nil },
		"nothing at all":          func(s *api.Scope) { *s = api.Scope{} },
		"empty lists":             func(s *api.Scope) { *s = api.Scope{Lats: []api.Lat{}, Vars: []api.Var{}} },
		"another shape":           func(s *api.Scope) { s.Lats[0].Shape.Tuple = true },
		"a name like one's point": func(s *api.Scope) { s.Lats[0].Name = "lo" },
	} {
		s := sample(t)
		change(&s)
		if !scope.Right(s) || !modelRight(s) {
			t.Errorf("after a change of %s it is not valid", what)
		}
	}
	for what, change := range map[string]func(s *api.Scope){
		"two lattices of a name":     func(s *api.Scope) { s.Lats[3].Name = "k" },
		"two variables of a name":    func(s *api.Scope) { s.Vars[2].Name = "x" },
		"a lattice like a variable":  func(s *api.Scope) { s.Lats[0].Name = "r" },
		"a variable like a lattice":  func(s *api.Scope) { s.Vars[0].Name = "w" },
		"a lattice without a name":   func(s *api.Scope) { s.Lats[2].Name = "" },
		"a variable without a name":  func(s *api.Scope) { s.Vars[1].Name = "" },
		"a large letter":             func(s *api.Scope) { s.Lats[2].Name = "K" },
		"a digit ahead":              func(s *api.Scope) { s.Vars[1].Name = "1x" },
		"a name that is too long":    func(s *api.Scope) { s.Lats[1].Name = "abcdefghijklmnopq" },
		"another one":                func(s *api.Scope) { s.Vars[0].Name = "abcdefghijklmnopq" },
		"no factors":                 func(s *api.Scope) { s.Lats[1].Shape = api.Shape{} },
		"a tuple without factors":    func(s *api.Scope) { s.Lats[3].Shape.Factors = nil },
		"factors without a tuple":    func(s *api.Scope) { s.Lats[3].Shape.Tuple = false },
		"a factor without names":     func(s *api.Scope) { s.Lats[3].Shape.Factors[2].Names = nil },
		"a factor of no kind":        func(s *api.Scope) { s.Lats[0].Shape.Factors[0].Kind = 0 },
		"a relation that is not one": func(s *api.Scope) { s.Lats[2].Shape.Factors[0].Rel.Up[1] = 0 },
		"a table that is no lattice": func(s *api.Scope) {
			s.Lats[2].Shape.Factors[0] = api.Factor{Kind: 4, Names: []string{"a", "b"}, Rel: api.Rel{N: 2, Up: [64]uint64{1, 2}}}
		},
		"a variable of no kind":       func(s *api.Scope) { s.Vars[0].Kind = 0 },
		"a variable of another kind":  func(s *api.Scope) { s.Vars[2].Kind = 3 },
		"a negative kind":             func(s *api.Scope) { s.Vars[1].Kind = -1 },
		"a variable of no lattice":    func(s *api.Scope) { s.Vars[0].Lat = 4 },
		"a negative lattice":          func(s *api.Scope) { s.Vars[2].Lat = -1 },
		"a lattice that is far away":  func(s *api.Scope) { s.Vars[2].Lat = math.MaxInt },
		"one that is far away below":  func(s *api.Scope) { s.Vars[2].Lat = math.MinInt },
		"variables without lattices":  func(s *api.Scope) { s.Lats = nil },
		"variables beyond the length": func(s *api.Scope) { s.Lats, s.Vars[0].Lat = s.Lats[:3], 3 },
	} {
		s := sample(t)
		change(&s)
		if scope.Right(s) || modelRight(s) {
			t.Errorf("with %s it is valid", what)
		}
	}
}

func TestRightAtTheLimits(t *testing.T) {
	for lats := range 20 {
		for vars := range 70 {
			if lats > 0 || vars == 0 {
				if got := scope.Right(full(lats, vars)); got != (lats <= 16 && vars <= 64) {
					t.Errorf("with %d lattices and %d variables: %v", lats, vars, got)
				}
			}
		}
	}
}

func TestRightOfEachPlace(t *testing.T) {
	for i := range 16 {
		s := full(16, 64)
		s.Lats[i].Shape.Factors = nil
		if scope.Right(s) {
			t.Error("a shape that is not valid at", i)
		}
		for j := range 16 {
			s = full(16, 64)
			s.Lats[i].Name = s.Lats[j].Name
			if scope.Right(s) != (i == j) {
				t.Error("the name of two lattices at", i, j)
			}
		}
		for j := range 64 {
			s = full(16, 64)
			s.Lats[i].Name = s.Vars[j].Name
			if scope.Right(s) {
				t.Error("the name of a lattice and a variable at", i, j)
			}
		}
	}
	for i := range 64 {
		for j := range 64 {
			s := full(16, 64)
			s.Vars[i].Name = s.Vars[j].Name
			if scope.Right(s) != (i == j) {
				t.Error("the name of two variables at", i, j)
			}
		}
		for kind := -2; kind < 6; kind++ {
			s := full(16, 64)
			s.Vars[i].Kind = kind
			if scope.Right(s) != (kind == 1 || kind == 2) {
				t.Error("the kind", kind, "at", i)
			}
		}
		for lat := -2; lat < 20; lat++ {
			s := full(16, 64)
			s.Vars[i].Lat = lat
			if scope.Right(s) != (lat >= 0 && lat < 16) {
				t.Error("the lattice", lat, "at", i)
			}
		}
	}
}

func TestRightOfMixedScopes(t *testing.T) {
	next := mixed()
	for range 20000 {
		s := drawnScope(next)
		if got := scope.Right(s); got != modelRight(s) {
			t.Fatalf("%v: %v", s, got)
		}
	}
}

// P13.6: the laws.

// declaration returns a line that declares something, or would if it had no fault.
func declaration(next func(n int) int) string {
	names := numbered(400)
	some := func(l []string) []string {
		var chosen []string
		for range 1 + next(4) {
			chosen = append(chosen, l[next(len(l))])
		}
		return chosen
	}
	n := names[next(30)]
	switch next(7) {
	case 0:
		return "chain " + n + " " + list(some(texts[:8])...)
	case 1:
		return "power " + n + " " + list(some(names)...)
	case 2:
		return "product " + n + " " + list(some(names[:30])...)
	case 3:
		l := some(texts[:8])
		return "grid " + n + " " + list(l...) + " " + ladder(append(l, l[next(len(l))])...)
	case 4:
		l := some(texts[:8])
		return "table " + n + " " + list(l...) + " " + ladder(l...)
	case 5:
		return "label " + n + " " + list(some(names)...)
	}
	return "row " + n + " " + list(some(names)...)
}

// law fails unless adding c to the valid scope s gives a valid scope in which what c declares is live, and what was live is as it was.
func law(t *testing.T, s api.Scope, c api.Cmd) api.Scope {
	t.Helper()
	before := copyOf(s)
	after := scope.Add(s, c)
	if !equal(s, before) {
		t.Fatalf("%v changes %v", c, before)
	}
	if !scope.Right(after) || !modelRight(after) {
		t.Fatalf("%v makes %v not valid: %v", c, s, after)
	}
	lats, vars := len(s.Lats), len(s.Vars)
	if !equal(api.Scope{Lats: after.Lats[:lats], Vars: after.Vars[:vars]}, before) {
		t.Fatalf("%v changes what was live: %v", c, after)
	}
	if scope.Fault(s, c) != none {
		if len(after.Lats) != lats || len(after.Vars) != vars {
			t.Fatalf("%v has a fault and is added", c)
		}
		return after
	}
	if c.Op > 5 {
		for i, w := range c.Names {
			lat, _ := scope.Find(s, c.Name.Text)
			none, v := scope.Find(after, w.Text)
			if none != -1 || v != vars+i || after.Vars[v] != (api.Var{Name: w.Text, Kind: c.Op - 5, Lat: lat}) {
				t.Fatalf("%v declares %v at %d", c, after, v)
			}
		}
		if len(after.Lats) != lats || len(after.Vars) != vars+len(c.Names) {
			t.Fatalf("%v adds something else", c)
		}
		return after
	}
	lat, none := scope.Find(after, c.Name.Text)
	if none != -1 || lat != lats || len(after.Lats) != lats+1 || len(after.Vars) != vars || !equalShapes(after.Lats[lat].Shape, modelShape(s, c)) {
		t.Fatalf("%v declares %v", c, after)
	}
	return after
}

func TestLawsOfAdding(t *testing.T) {
	next := mixed()
	lats, vars := 0, 0
	for range 10 {
		s := api.Scope{}
		for range 600 {
			line := declaration(next)
			c := parsed(t, line)
			if !command.Right(c) {
				t.Fatalf("%q could not be parsed", line)
			}
			check(t, s, c)
			s = law(t, s, c)
		}
		lats, vars = max(lats, len(s.Lats)), max(vars, len(s.Vars))
	}
	if lats != 16 || vars != 64 {
		t.Errorf("there are never more than %d lattices and %d variables", lats, vars)
	}
}

// Whatever has no fault at a limit gives a valid scope.
func TestLawsAtTheLimits(t *testing.T) {
	s := added(t, api.Scope{}, "chain k {a}", "product p {k,k,k,k}")
	for _, n := range []int{1, 7, 8, 9, 63, 64, 65} {
		l := numbered(n)
		for _, line := range []string{
			"chain n " + list(l...), "power n " + list(l...), "grid n " + list(l...) + " {}", "grid n " + list(l...) + ladder(append(l, l[0])...),
			"table n " + list(l...) + ladder(l...), "table n " + list(l...) + ladder(append(l, l[0])...), "label k " + list(l...), "row p " + list(l...),
			"product n " + list(slices.Repeat([]string{"k"}, n)...), "product n {p,p}", "product n {p,p,k}",
		} {
			c := parsed(t, line)
			check(t, s, c)
			law(t, s, c)
		}
	}
	for i := range 20 {
		s = law(t, s, parsed(t, "chain c"+strconv.Itoa(i)+" {a}"))
	}
	for i := range 70 {
		s = law(t, s, parsed(t, []string{"label", "row"}[i%2]+" c"+strconv.Itoa(i%14)+" {v"+strconv.Itoa(i)+"}"))
	}
	if len(s.Lats) != 16 || len(s.Vars) != 64 {
		t.Error("the limits are not reached:", len(s.Lats), len(s.Vars))
	}
}
