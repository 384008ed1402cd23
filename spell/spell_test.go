package spell_test

import (
	"math"
	"reflect"
	"slices"
	"strconv"
	"strings"
	"testing"

	"clearance/api"
	"clearance/lex"
	"clearance/shape"
	"clearance/spell"
	"clearance/term"
	"clearance/tree"
)

// deepest is the greatest number of levels for which the document promises anything.
const deepest = 1 << 16

// names returns the first n of different names, in a list with other names beyond its length.
func names(n int) []string {
	l := []string{"p", "q", "r", "lo", "hi", "a_1", "abcdefghijklmnop", "z"}
	for i := len(l); i < n+3; i++ {
		l = append(l, "n"+strconv.Itoa(i))
	}
	return l[:n]
}

// made returns the relation of n points in which exactly those are related for which below holds, with bits that belong to no point.
func made(n int, below func(i, j int) bool) api.Rel {
	r := api.Rel{N: n}
	for i := range r.Up {
		for j := range 64 {
			if i >= n || j >= n || below(i, j) {
				r.Up[i] += 1 << j
			}
		}
	}
	return r
}

// turned returns r with each point renamed to the last one minus its number.
func turned(r api.Rel) api.Rel {
	return made(r.N, func(i, j int) bool { return has(r, r.N-1-i, r.N-1-j) })
}

// has reports whether point i of r is below its point j.
func has(r api.Rel, i, j int) bool {
	return r.Up[i]>>j&1 == 1
}

// ladder returns the order of n points in which every two are related.
func ladder(n int) api.Rel {
	return made(n, func(i, j int) bool { return i <= j })
}

// apart returns the order of n points in which no two are related.
func apart(n int) api.Rel {
	return made(n, func(i, j int) bool { return i == j })
}

// ring returns the closed relation of n points in which all are below each other.
func ring(n int) api.Rel {
	return made(n, func(i, j int) bool { return true })
}

// forked returns the order in which the first of n points is below all others, which are unrelated.
func forked(n int) api.Rel {
	return made(n, func(i, j int) bool { return i == j || i == 0 })
}

// sets returns the order of the subsets of n atoms.
func sets(n int) api.Rel {
	return made(1<<n, func(i, j int) bool { return i&^j == 0 })
}

// flat returns the order of n points in which all but the first and the last one are between these and otherwise unrelated.
func flat(n int) api.Rel {
	return made(n, func(i, j int) bool { return i == j || i == 0 || j == n-1 })
}

func chain(n int) api.Factor {
	return api.Factor{Kind: api.Chain, Names: names(n)}
}

func power(n int) api.Factor {
	return api.Factor{Kind: api.Power, Names: names(n)}
}

func grid(r api.Rel) api.Factor {
	return api.Factor{Kind: api.Grid, Names: names(r.N), Rel: r}
}

func table(r api.Rel) api.Factor {
	return api.Factor{Kind: api.Table, Names: names(r.N), Rel: r}
}

// single returns the shape of f.
func single(f api.Factor) api.Shape {
	return api.Shape{Factors: []api.Factor{f}}
}

// tuple returns the Tuple of the factors.
func tuple(l ...api.Factor) api.Shape {
	return api.Shape{Tuple: true, Factors: l}
}

// small returns factors of few words.
func small() []api.Factor {
	return []api.Factor{
		chain(1), chain(2), chain(3), chain(7),
		power(1), power(2), power(4),
		grid(apart(1)), grid(apart(2)), grid(ladder(2)), grid(turned(ladder(2))), grid(ring(2)), grid(ladder(3)), grid(ring(3)), grid(forked(3)), grid(turned(forked(3))),
		table(ladder(1)), table(ladder(3)), table(sets(2)), table(flat(5)), table(turned(ladder(4))), table(turned(flat(5))),
	}
}

// large returns factors at the limits.
func large() []api.Factor {
	return []api.Factor{
		chain(63), chain(64), power(63), power(64),
		grid(apart(8)), grid(ladder(8)), grid(ring(8)), grid(forked(8)), grid(turned(ladder(7))),
		table(ladder(64)), table(sets(6)), table(flat(64)), table(turned(flat(63))), table(turned(sets(6))),
	}
}

// rightShapes returns valid shapes of 1 to 8 factors.
func rightShapes() []api.Shape {
	l := small()
	all := append(small(), large()...)
	var shapes []api.Shape
	for i, f := range all {
		shapes = append(shapes, single(f), tuple(f), tuple(f, l[(i*7+3)%len(l)]), tuple(l[(i*5+2)%len(l)], power(3), f))
	}
	for n := 4; n <= 8; n++ {
		shapes = append(shapes, tuple(l[n:n+n]...), tuple(l[len(l)-n:]...), tuple(slices.Repeat([]api.Factor{table(flat(5))}, n)...))
	}
	return shapes
}

// wrongShapes returns shapes that are not valid.
func wrongShapes() []api.Shape {
	l := []api.Shape{
		{}, tuple(), {Factors: []api.Factor{chain(2), chain(2)}}, tuple(slices.Repeat([]api.Factor{chain(2)}, 9)...), tuple(slices.Repeat([]api.Factor{power(2)}, 100)...),
	}
	for _, f := range []api.Factor{
		{}, {Kind: 5, Names: names(2)}, {Kind: -1, Names: names(2)}, {Kind: api.Grid, Names: names(2)}, {Kind: api.Table, Names: names(2)},
		chain(0), chain(65), power(0), power(65), grid(apart(0)), grid(apart(9)), table(apart(2)), table(forked(3)), table(ring(2)),
		{Kind: api.Chain, Names: names(2), Rel: ladder(2)}, {Kind: api.Power, Names: names(2), Rel: ladder(2)},
		{Kind: api.Grid, Names: names(2), Rel: ladder(3)}, {Kind: api.Table, Names: names(3), Rel: ladder(2)},
		{Kind: api.Chain, Names: []string{"p", "p"}}, {Kind: api.Power, Names: []string{"p", "Q"}}, {Kind: api.Chain, Names: []string{"p", ""}},
	} {
		l = append(l, single(f), tuple(f), tuple(chain(2), f))
	}
	return l
}

// mixed returns a function that returns numbers below its argument, in an order that is fixed but mixed.
func mixed() func(n int) int {
	x := uint64(1)
	return func(n int) int {
		x = x*6364136223846793005 + 1442695040888963407
		return int(x>>33) % n
	}
}

// The model: a constant is a text, whose bytes have their places as offsets, and is cut at its commas and brackets.

// pieces returns the parts of text between its outermost commas, and the offset of each.
func pieces(text string, at int) (parts []string, ats []int) {
	if text == "" {
		return nil, nil
	}
	begin, open := 0, 0
	for i := range len(text) + 1 {
		switch {
		case i == len(text) || text[i] == ',' && open == 0:
			parts, ats = append(parts, text[begin:i]), append(ats, at+begin)
			begin = i + 1
		case strings.IndexByte("({[", text[i]) >= 0:
			open++
		case strings.IndexByte(")}]", text[i]) >= 0:
			open--
		}
	}
	return parts, ats
}

// inside returns the parts of what the brackets around text contain, and the offset of each.
func inside(text string, at int) ([]string, []int) {
	return pieces(text[1:len(text)-1], at+1)
}

// setOf returns the indices of the names in the braces text, or the offset of the first one that is not among the names of f.
func setOf(f api.Factor, text string, at int) (l []int, wrong int) {
	parts, ats := inside(text, at)
	for i, p := range parts {
		k := slices.Index(f.Names, p)
		if k < 0 {
			return nil, ats[i]
		}
		l = append(l, k)
	}
	return l, -1
}

// below returns the set of the points that are below point i.
func below(r api.Rel, i int) uint64 {
	var w uint64
	for k := range r.N {
		if has(r, k, i) {
			w |= 1 << k
		}
	}
	return w
}

// ruled returns the word of one rule: each exclusion that follows from another one is added until none does.
func ruled(r api.Rel, owner int, readers []int) uint64 {
	var w uint64
	for x := range r.N {
		if !slices.ContainsFunc(readers, func(y int) bool { return has(r, y, x) }) {
			w |= 1 << (8*owner + x)
		}
	}
	for before := ^w; w != before; {
		before = w
		for bit := range 64 {
			p, y := bit/8, bit%8
			for o := range r.N {
				for x := range r.N {
					if w>>bit&1 == 1 && has(r, o, p) && has(r, x, y) {
						w |= 1 << (8*o + x)
					}
				}
			}
		}
	}
	return w
}

// wordOf returns the word of the constant text of f, or the offset of its first wrong token.
func wordOf(f api.Factor, text string, at int) (w uint64, wrong int) {
	switch f.Kind {
	case api.Power:
		if text[0] != '{' {
			return 0, at
		}
		l, wrong := setOf(f, text, at)
		for _, i := range l {
			w |= 1 << i
		}
		return w, wrong
	case api.Grid:
		if text[0] != '[' {
			return 0, at
		}
		rules, ats := inside(text, at)
		for i, rule := range rules {
			owner, readers, _ := strings.Cut(rule, ":")
			k := slices.Index(f.Names, owner)
			if k < 0 {
				return 0, ats[i]
			}
			l, wrong := setOf(f, readers, ats[i]+len(owner)+1)
			if wrong >= 0 {
				return 0, wrong
			}
			w |= ruled(f.Rel, k, l)
		}
		return w, -1
	}
	k := slices.Index(f.Names, text)
	if k < 0 {
		return 0, at
	}
	if f.Kind == api.Table {
		return below(f.Rel, k), -1
	}
	return 1<<k - 1, -1
}

// elemOf returns the element of the constant text of the valid shape s, or the offset of its first wrong token.
func elemOf(s api.Shape, text string) (e api.Elem, wrong int) {
	parts, ats := []string{text}, []int{0}
	if s.Tuple {
		if text[0] != '(' {
			return api.Elem{}, 0
		}
		parts, ats = inside(text, 0)
		if len(parts) != len(s.Factors) {
			return api.Elem{}, 0
		}
	}
	for i, f := range s.Factors {
		e[i], wrong = wordOf(f, parts[i], ats[i])
		if wrong >= 0 {
			return api.Elem{}, wrong
		}
	}
	return e, -1
}

// listed returns the names of the factor for which in holds, with commas between.
func listed(f api.Factor, in func(i int) bool) string {
	var l []string
	for i, s := range f.Names {
		if in(i) {
			l = append(l, s)
		}
	}
	return strings.Join(l, ",")
}

// written returns the constant of the word w of f.
func written(f api.Factor, w uint64) string {
	switch f.Kind {
	case api.Power:
		return "{" + listed(f, func(i int) bool { return w>>i&1 == 1 }) + "}"
	case api.Grid:
		var rules []string
		for o, owner := range f.Names {
			readers := listed(f, func(x int) bool { return w>>(8*o+x)&1 == 0 })
			if readers != listed(f, func(int) bool { return true }) {
				rules = append(rules, owner+":{"+readers+"}")
			}
		}
		return "[" + strings.Join(rules, ",") + "]"
	}
	for k, s := range f.Names {
		if f.Kind == api.Chain && w == 1<<k-1 || f.Kind == api.Table && w == below(f.Rel, k) {
			return s
		}
	}
	return "none"
}

// writtenAll returns the constant of the element e of s.
func writtenAll(s api.Shape, e api.Elem) string {
	var l []string
	for i, f := range s.Factors {
		l = append(l, written(f, e[i]))
	}
	if s.Tuple {
		return "(" + strings.Join(l, ",") + ")"
	}
	return l[0]
}

// closed reports whether w, a word of principals only, is closed as chapter 5 defines it.
func closed(r api.Rel, w uint64) bool {
	for bit := range 64 {
		for o := range r.N {
			for x := range r.N {
				if w>>bit&1 == 1 && has(r, o, bit/8) && has(r, x, bit%8) && w>>(8*o+x)&1 == 0 {
					return false
				}
			}
		}
	}
	return true
}

// words returns all words of a small factor, or some of a large one.
func words(f api.Factor) []uint64 {
	n := len(f.Names)
	var l []uint64
	switch f.Kind {
	case api.Chain:
		for k := range n {
			l = append(l, 1<<k-1)
		}
	case api.Table:
		for k := range n {
			l = append(l, below(f.Rel, k))
		}
	case api.Power:
		if n > 8 {
			all := uint64(math.MaxUint64) >> (64 - n)
			return []uint64{0, 1, all, all >> 1, all &^ 1, 1 << (n - 1), 0x5555555555555555 & all, 0xf00f1234 & all}
		}
		for w := range uint64(1) << n {
			l = append(l, w)
		}
	case api.Grid:
		if n > 3 {
			return []uint64{0, ruled(f.Rel, 0, nil), ruled(f.Rel, n-1, nil), ruled(f.Rel, n-1, []int{0}), ruled(f.Rel, 1, []int{3, 2}) | ruled(f.Rel, n-2, []int{n - 1}), ruled(f.Rel, 2, []int{2})}
		}
		for bits := range uint64(1) << (n * n) {
			var w uint64
			for o := range n {
				w |= bits >> (n * o) % (1 << n) << (8 * o)
			}
			if closed(f.Rel, w) {
				l = append(l, w)
			}
		}
	}
	return l
}

// elements returns elements of a valid shape: for each factor all of its words, together with mixed words of the other ones.
func elements(s api.Shape) []api.Elem {
	next := mixed()
	var all [][]uint64
	for _, f := range s.Factors {
		all = append(all, words(f))
	}
	var l []api.Elem
	for i := range all {
		for _, w := range all[i] {
			var e api.Elem
			for k := range all {
				e[k] = all[k][next(len(all[k]))]
			}
			e[i] = w
			l = append(l, e)
		}
	}
	return l
}

// parsed returns the constant that text is.
func parsed(t *testing.T, text string) api.Node {
	t.Helper()
	toks, f := lex.Read(text)
	if f != (api.Fault{}) {
		t.Fatalf("%q gives %v", text, f)
	}
	l, f := tree.Read(toks)
	if f != (api.Fault{}) {
		t.Fatalf("%q gives %v", text, f)
	}
	n, next, f := term.Const(l, 0, len(text))
	if f != (api.Fault{}) || next != len(l) {
		t.Fatalf("%q gives %v, %d, %v", text, n, next, f)
	}
	return n
}

// moved returns n with each offset changed by to.
func moved(n api.Node, to func(at int) int) api.Node {
	n.At = to(n.At)
	n.Names = slices.Clone(n.Names)
	for i := range n.Names {
		n.Names[i].At = to(n.Names[i].At)
	}
	n.Kids = slices.Clone(n.Kids)
	for i := range n.Kids {
		n.Kids[i] = moved(n.Kids[i], to)
	}
	return n
}

// sameAll reports whether the nodes are equal with their offsets; an empty list is like none.
func sameAll(a, b api.Node) bool {
	return a.Kind == b.Kind && a.At == b.At && a.Text == b.Text && slices.Equal(a.Names, b.Names) && slices.EqualFunc(a.Kids, b.Kids, sameAll)
}

// check compares Elem with the model for the constant text, with the offsets of its bytes and with others. It reports whether the text is a constant of s.
func check(t *testing.T, s api.Shape, text string) bool {
	t.Helper()
	n := parsed(t, text)
	want, wrong := elemOf(s, text)
	// Where the order of the offsets is not that of the tokens, the tokens decide.
	for _, to := range []func(at int) int{
		func(at int) int { return at },
		func(at int) int { return -at },
		func(at int) int { return 100 - at },
		func(at int) int { return 0 },
		func(at int) int { return at * 7919 % 1009 },
		func(at int) int { return math.MaxInt - at },
		func(at int) int { return math.MinInt + at },
	} {
		e, f := spell.Elem(s, moved(n, to))
		fault := api.Fault{}
		if wrong >= 0 {
			fault = api.Fault{Class: 4, At: to(wrong)}
		}
		if e != want || f != fault {
			t.Fatalf("%q in %v is %x, %v, want %x, %v", text, s, e, f, want, fault)
		}
	}
	if wrong < 0 && !shape.Fits(s, want) {
		t.Fatalf("%q in %v is no element: %x", text, s, want)
	}
	return wrong < 0
}

// maker calls f with each text of some kind that has at most size names and opening brackets, and with how many more there could be.
type maker func(size int, f func(text string, left int))

// eachList makes the lists of one or more texts with commas between.
func eachList(element maker) maker {
	return func(size int, f func(text string, left int)) {
		element(size, func(text string, left int) {
			f(text, left)
			eachList(element)(left, func(rest string, left int) { f(text+","+rest, left) })
		})
	}
}

// eachBracket makes the given brackets with a text between them.
func eachBracket(brackets string, content maker) maker {
	return func(size int, f func(text string, left int)) {
		if size > 0 {
			content(size-1, func(text string, left int) { f(brackets[:1]+text+brackets[1:], left) })
		}
	}
}

// eachOrNone makes the empty text and all that content makes.
func eachOrNone(content maker) maker {
	return func(size int, f func(text string, left int)) {
		f("", size)
		content(size, f)
	}
}

// eachName makes two names that most of the small factors have, and one that none has.
func eachName(size int, f func(text string, left int)) {
	for _, s := range []string{"p", "q", "no"} {
		if size > 0 {
			f(s, size-1)
		}
	}
}

// eachRule makes the rules of a grid's constant.
func eachRule(size int, f func(text string, left int)) {
	eachName(size, func(owner string, left int) {
		eachBracket("{}", eachOrNone(eachList(eachName)))(left, func(readers string, left int) { f(owner+":"+readers, left) })
	})
}

// eachConstant makes the constants.
func eachConstant(size int, f func(text string, left int)) {
	eachName(size, f)
	eachBracket("{}", eachOrNone(eachList(eachName)))(size, f)
	eachBracket("[]", eachOrNone(eachList(eachRule)))(size, f)
	eachBracket("()", eachList(eachConstant))(size, f)
}

// drawnName returns one of the names of f, or rarely another one.
func drawnName(f api.Factor, next func(n int) int) string {
	if next(40) == 0 {
		return []string{"no", "x", "n64", "n65", "lo", "p_", "abcdefghijklmno"}[next(7)]
	}
	return f.Names[next(len(f.Names))]
}

// drawnList returns braces with some names of f.
func drawnList(f api.Factor, next func(n int) int) string {
	l := make([]string, next(6))
	for i := range l {
		l[i] = drawnName(f, next)
	}
	return "{" + strings.Join(l, ",") + "}"
}

// drawn returns a constant of f, or rarely one of another factor.
func drawn(f api.Factor, next func(n int) int) string {
	if next(40) == 0 {
		f.Kind = 1 + next(5)
	}
	switch f.Kind {
	case api.Power:
		return drawnList(f, next)
	case api.Grid:
		l := make([]string, next(5))
		for i := range l {
			l[i] = drawnName(f, next) + ":" + drawnList(f, next)
		}
		return "[" + strings.Join(l, ",") + "]"
	case 5:
		return "(" + drawnName(f, next) + ")"
	}
	return drawnName(f, next)
}

// drawnAll returns a constant of s, or rarely one of another shape.
func drawnAll(s api.Shape, next func(n int) int) string {
	var l []string
	for _, f := range s.Factors {
		l = append(l, drawn(f, next))
	}
	switch next(40) {
	case 0:
		s.Tuple = !s.Tuple
	case 1:
		l = append(l, l[0])
	case 2:
		l = append(l[1:], l[0], l[0])[:max(1, len(l)-1)]
	}
	if s.Tuple {
		return "(" + strings.Join(l, ",") + ")"
	}
	return l[0]
}

// P11.1: Elem.

func TestExamples(t *testing.T) {
	lohi := single(api.Factor{Kind: api.Chain, Names: []string{"lo", "hi"}})
	pq := single(api.Factor{Kind: api.Grid, Names: []string{"p", "q"}, Rel: ladder(2)})
	both := tuple(lohi.Factors[0], pq.Factors[0])
	for _, c := range []struct {
		s    api.Shape
		text string
		want api.Elem
	}{
		{lohi, "lo", api.Elem{0}},
		{lohi, "hi", api.Elem{1}},
		{pq, "[p:{q}]", api.Elem{1}},
		{both, "(hi,[p:{q}])", api.Elem{1, 1}},
		{both, "(lo,[])", api.Elem{}},
	} {
		e, f := spell.Elem(c.s, parsed(t, c.text))
		if e != c.want || f != (api.Fault{}) {
			t.Errorf("%q is %x, %v", c.text, e, f)
		}
		if text := spell.Text(c.s, c.want); text != "#"+c.text {
			t.Errorf("%x has the text %q, want #%s", c.want, text, c.text)
		}
	}
}

func TestWordsOfEachKind(t *testing.T) {
	for _, c := range []struct {
		f    api.Factor
		text string
		want uint64
	}{
		{chain(3), "p", 0},
		{chain(3), "q", 1},
		{chain(3), "r", 3},
		{chain(64), "n63", math.MaxInt64},
		{table(ladder(3)), "p", 1},
		{table(ladder(3)), "r", 7},
		{table(turned(ladder(3))), "p", 7},
		{table(flat(5)), "r", 5},
		{table(flat(5)), "hi", 31},
		{table(ladder(64)), "n63", math.MaxUint64},
		{power(3), "{}", 0},
		{power(3), "{r,p}", 5},
		{power(3), "{q,q,q}", 2},
		{power(64), "{n63,p}", 1<<63 + 1},
		{grid(apart(2)), "[]", 0},
		{grid(apart(2)), "[p:{}]", 3},
		{grid(apart(2)), "[p:{p,q}]", 0},
		{grid(apart(2)), "[q:{p}]", 0x200},
		{grid(apart(2)), "[q:{p},p:{q},q:{q}]", 0x301},
		{grid(ladder(2)), "[p:{p}]", 0},
		{grid(ladder(2)), "[q:{q}]", 0x101},
		{grid(ladder(2)), "[p:{}]", 3},
		{grid(ladder(2)), "[q:{}]", 0x303},
		{grid(ring(2)), "[p:{q}]", 0},
		{grid(ring(2)), "[p:{}]", 0x303},
		{grid(apart(8)), "[z:{}]", 0xff << 56},
		{grid(ladder(8)), "[z:{}]", math.MaxUint64},
	} {
		e, f := spell.Elem(single(c.f), parsed(t, c.text))
		if e != (api.Elem{c.want}) || f != (api.Fault{}) {
			t.Errorf("%q of kind %d is %x, %v, want %x", c.text, c.f.Kind, e, f, c.want)
		}
		e, f = spell.Elem(tuple(c.f, chain(2), c.f), parsed(t, "("+c.text+",q,"+c.text+")"))
		if e != (api.Elem{c.want, 1, c.want}) || f != (api.Fault{}) {
			t.Errorf("%q of kind %d in a tuple is %x, %v, want %x", c.text, c.f.Kind, e, f, c.want)
		}
	}
}

func TestFaults(t *testing.T) {
	all := tuple(chain(2), power(2), grid(ladder(2)), table(ladder(2)))
	for _, c := range []struct {
		s    api.Shape
		text string
		at   int
	}{
		{single(chain(2)), "r", 0},
		{single(chain(2)), "{p}", 0},
		{single(chain(2)), "(p)", 0},
		{single(chain(2)), "[]", 0},
		{single(table(ladder(2))), "r", 0},
		{single(table(ladder(2))), "{}", 0},
		{single(table(ladder(2))), "(p)", 0},
		{single(table(ladder(2))), "[p:{}]", 0},
		{single(power(2)), "p", 0},
		{single(power(2)), "({p})", 0},
		{single(power(2)), "[p:{}]", 0},
		{single(power(2)), "{p, r ,s}", 4},
		{single(grid(apart(2))), "p", 0},
		{single(grid(apart(2))), "{p}", 0},
		{single(grid(apart(2))), "([])", 0},
		{single(grid(apart(2))), "[r:{s}]", 1},
		{single(grid(apart(2))), "[p:{q,s},r:{}]", 6},
		{single(grid(apart(2))), "[p:{q}, r:{},q:{r}]", 8},
		{single(grid(apart(2))), "[p:{q},q:{p, r}]", 13},
		{tuple(chain(2)), "p", 0},
		{tuple(chain(2)), "{p}", 0},
		{tuple(chain(2)), "((p))", 1},
		{tuple(chain(2)), "(r)", 1},
		{tuple(chain(2)), "(r,p)", 0},
		{tuple(chain(2), chain(2)), "(r)", 0},
		{all, "(p,{},[])", 0},
		{all, "(p,{},[],p,p)", 0},
		{all, "(r,{r},[r:{}],r)", 1},
		{all, "({},p,p,{})", 1},
		{all, "(p,[],[],p)", 3},
		{all, "(p,{q,r},[r:{}],r)", 6},
		{all, "(p,{},{},r)", 6},
		{all, "(p,{},[q:{q},r:{}],r)", 13},
		{all, "(p,{},[],{})", 9},
		{all, "(p,{},[],r)", 9},
	} {
		n := parsed(t, c.text)
		for _, shift := range []int{0, 10, -1000, 1 << 40} {
			e, f := spell.Elem(c.s, moved(n, func(at int) int { return at + shift }))
			if e != (api.Elem{}) || f != (api.Fault{Class: api.Sort, At: c.at + shift}) {
				t.Errorf("%q, moved by %d, is %x, %v, want a fault at %d", c.text, shift, e, f, c.at+shift)
			}
		}
	}
}

func TestNamesOfTheFactor(t *testing.T) {
	// Every name of the factor is right in its constants; a name beyond the length of its list is not, nor is one of another factor.
	for _, f := range append(small(), large()...) {
		beyond := f.Names[:len(f.Names)+1][len(f.Names)]
		other := api.Factor{Kind: api.Power, Names: []string{"other", "of_another"}}
		for i, s := range append(slices.Clone(f.Names), beyond, "other", "no") {
			for _, form := range map[int][]string{api.Power: {"{!}", "{" + f.Names[0] + ",!}"}, api.Grid: {"[!:{}]", "[" + f.Names[0] + ":{!}]"}}[f.Kind] {
				text := strings.ReplaceAll(form, "!", s)
				check(t, single(f), text)
				check(t, tuple(f, other), "("+text+",{other})")
			}
			if f.Kind == api.Chain || f.Kind == api.Table {
				check(t, single(f), s)
				check(t, tuple(other, f), "({},"+s+")")
				_, fault := spell.Elem(single(f), api.Node{Kind: api.NodePoint, Text: s})
				if (fault == api.Fault{}) != (i < len(f.Names)) {
					t.Fatalf("%q among %v: %v", s, f.Names, fault)
				}
			}
		}
	}
}

func TestAllShortConstants(t *testing.T) {
	factors := []api.Factor{chain(1), chain(2), power(1), power(2), grid(apart(1)), grid(apart(2)), grid(ladder(2)), grid(turned(ladder(2))), table(ladder(1)), table(turned(ladder(2)))}
	var shapes []api.Shape
	for _, f := range factors {
		shapes = append(shapes, single(f), tuple(f))
		for _, g := range factors {
			shapes = append(shapes, tuple(f, g))
		}
	}
	right, wrong := 0, 0
	eachConstant(5, func(text string, left int) {
		for _, s := range shapes {
			if check(t, s, text) {
				right++
			} else {
				wrong++
			}
		}
	})
	if right < 500 || wrong < 1000 {
		t.Fatalf("%d right, %d wrong", right, wrong)
	}
}

func TestMixedConstants(t *testing.T) {
	next := mixed()
	right, wrong := 0, 0
	for _, s := range rightShapes() {
		for range 60 {
			text := drawnAll(s, next)
			if check(t, s, text) {
				right++
			} else {
				wrong++
			}
		}
	}
	if right < 1000 || wrong < 1000 {
		t.Fatalf("%d right, %d wrong", right, wrong)
	}
}

func TestNumbersOfKids(t *testing.T) {
	for factors := 1; factors <= api.MaxWidth; factors++ {
		s := tuple(slices.Repeat([]api.Factor{chain(2)}, factors)...)
		for kids := 1; kids <= api.MaxWidth+2; kids++ {
			check(t, s, "("+strings.Repeat("q,", kids-1)+"q)")
			// The number decides before a Kid that is wrong.
			check(t, s, "("+strings.Repeat("no,", kids-1)+"q)")
		}
	}
}

func TestShapesThatAreNotValid(t *testing.T) {
	for _, s := range wrongShapes() {
		for _, text := range []string{"p", "q", "{}", "{p}", "[]", "[p:{}]", "(p)", "({})", "([])", "(p,p)", "(p,{},[])", "(p,p,p,p,p,p,p,p)", "(p,p,p,p,p,p,p,p,p)"} {
			n := moved(parsed(t, text), func(at int) int { return at + 5 })
			e, f := spell.Elem(s, n)
			if e != (api.Elem{}) || f != (api.Fault{Class: api.Sort, At: 5}) {
				t.Fatalf("%q in %v is %x, %v", text, s, e, f)
			}
		}
	}
}

// noConstants returns nodes that no text of a constant is parsed as, all with the offset 3 and with the offset 4 inside.
func noConstants() []api.Node {
	name := []api.Word{{Text: "p", At: 4}}
	point := api.Node{Kind: api.NodePoint, At: 4, Text: "p"}
	bad := api.Node{Kind: api.NodePoint, At: 4, Text: "P"}
	rule := api.Node{Kind: api.NodeRule, At: 4, Text: "p"}
	l := []api.Node{
		{Kind: api.NodePoint}, {Kind: api.NodePoint, Text: "P"}, {Kind: api.NodePoint, Text: "1"}, {Kind: api.NodePoint, Text: strings.Repeat("p", 17)},
		{Kind: api.NodePoint, Text: "p", Names: name}, {Kind: api.NodePoint, Text: "p", Kids: []api.Node{point}},
		{Kind: api.NodeSet, Text: "p"}, {Kind: api.NodeSet, Names: name, Text: "p"}, {Kind: api.NodeSet, Kids: []api.Node{point}}, {Kind: api.NodeSet, Names: []api.Word{{Text: "p", At: 4}, {At: 4}}},
		{Kind: api.NodeTuple}, {Kind: api.NodeTuple, Text: "p", Kids: []api.Node{point}}, {Kind: api.NodeTuple, Names: name, Kids: []api.Node{point}},
		{Kind: api.NodeTuple, Kids: []api.Node{bad}}, {Kind: api.NodeTuple, Kids: []api.Node{point, bad}}, {Kind: api.NodeTuple, Kids: []api.Node{rule}}, {Kind: api.NodeTuple, Kids: []api.Node{{At: 4}}},
		{Kind: api.NodeGrid, Text: "p"}, {Kind: api.NodeGrid, Names: name}, {Kind: api.NodeGrid, Kids: []api.Node{point}}, {Kind: api.NodeGrid, Kids: []api.Node{rule, {Kind: api.NodeRule, At: 4}}},
		{Kind: api.NodeGrid, Kids: []api.Node{{Kind: api.NodeRule, At: 4, Text: "p", Kids: []api.Node{point}}}},
	}
	for _, kind := range []int{math.MinInt, -1, 0, api.NodeVar, api.NodeRule, api.NodeConst, api.NodeJoin, api.NodeMeet, api.NodeRow, api.NodeField, 12, math.MaxInt} {
		l = append(l, api.Node{Kind: kind}, api.Node{Kind: kind, Text: "p"}, api.Node{Kind: kind, Names: name}, api.Node{Kind: kind, Kids: []api.Node{point}}, api.Node{Kind: kind, Text: "p", Names: name, Kids: []api.Node{rule}})
	}
	for i := range l {
		l[i].At = 3
	}
	return l
}

func TestNodesThatAreNoConstants(t *testing.T) {
	shapes := []api.Shape{single(chain(2)), single(power(2)), single(grid(ladder(2))), single(table(ladder(2))), tuple(chain(2)), tuple(chain(2), chain(2)), tuple(power(2)), tuple(grid(ladder(2))), {}}
	for _, n := range noConstants() {
		for _, s := range shapes {
			e, f := spell.Elem(s, n)
			if e != (api.Elem{}) || f != (api.Fault{Class: api.Sort, At: 3}) {
				t.Fatalf("%v in %v is %x, %v", n, s, e, f)
			}
		}
		// What is no constant inside makes the whole no constant, even after a wrong name.
		whole := api.Node{Kind: api.NodeTuple, At: -9, Kids: []api.Node{{Kind: api.NodePoint, At: 1, Text: "no"}, n}}
		for _, s := range append(shapes, tuple(chain(2), table(ladder(2)))) {
			e, f := spell.Elem(s, whole)
			if e != (api.Elem{}) || f != (api.Fault{Class: api.Sort, At: -9}) {
				t.Fatalf("%v in %v is %x, %v", whole, s, e, f)
			}
		}
	}
}

func TestNamesBeyondTheLength(t *testing.T) {
	list := []api.Word{{Text: "p"}, {Text: "no", At: 5}}
	e, f := spell.Elem(single(power(2)), api.Node{Kind: api.NodeSet, Names: list[:1]})
	if e != (api.Elem{1}) || f != (api.Fault{}) {
		t.Error(e, f)
	}
	kids := []api.Node{{Kind: api.NodePoint, Text: "q"}, {Kind: api.NodePoint, Text: "q"}}
	e, f = spell.Elem(tuple(chain(2)), api.Node{Kind: api.NodeTuple, Kids: kids[:1]})
	if e != (api.Elem{1}) || f != (api.Fault{}) {
		t.Error(e, f)
	}
}

func TestLongLists(t *testing.T) {
	const n = 1 << 17
	f := power(64)
	l := make([]api.Word, n)
	for i := range l {
		l[i] = api.Word{Text: f.Names[i%63], At: i}
	}
	e, fault := spell.Elem(single(f), api.Node{Kind: api.NodeSet, Names: l})
	if e != (api.Elem{math.MaxInt64}) || fault != (api.Fault{}) {
		t.Errorf("%x, %v", e, fault)
	}
	l[n-1].Text, l[n-2].Text = "no", "none"
	e, fault = spell.Elem(single(f), api.Node{Kind: api.NodeSet, Names: l})
	if e != (api.Elem{}) || fault != (api.Fault{Class: api.Sort, At: n - 2}) {
		t.Errorf("%x, %v", e, fault)
	}
	rules := make([]api.Node, n/4)
	for i := range rules {
		rules[i] = api.Node{Kind: api.NodeRule, At: i, Text: names(8)[i%7]}
	}
	e, fault = spell.Elem(single(grid(apart(8))), api.Node{Kind: api.NodeGrid, Kids: rules})
	if e != (api.Elem{1<<56 - 1}) || fault != (api.Fault{}) {
		t.Errorf("%x, %v", e, fault)
	}
	e, fault = spell.Elem(tuple(grid(apart(8))), api.Node{Kind: api.NodeTuple, At: 7, Kids: slices.Repeat([]api.Node{{Kind: api.NodePoint, Text: "p"}}, n)})
	if e != (api.Elem{}) || fault != (api.Fault{Class: api.Sort, At: 7}) {
		t.Errorf("%x, %v", e, fault)
	}
}

func TestDeepConstants(t *testing.T) {
	n := api.Node{Kind: api.NodePoint, Text: "p", At: deepest}
	for i := range deepest - 1 {
		n = api.Node{Kind: api.NodeTuple, At: deepest - 1 - i, Kids: []api.Node{n}}
	}
	if e, f := spell.Elem(single(chain(2)), n); e != (api.Elem{}) || f != (api.Fault{Class: api.Sort, At: 1}) {
		t.Error(e, f)
	}
	if e, f := spell.Elem(tuple(chain(2)), n); e != (api.Elem{}) || f != (api.Fault{Class: api.Sort, At: 2}) {
		t.Error(e, f)
	}
	if e, f := spell.Elem(tuple(chain(2), chain(2)), n); e != (api.Elem{}) || f != (api.Fault{Class: api.Sort, At: 1}) {
		t.Error(e, f)
	}
}

// P11.2: Node, Text.

func TestConstantsOfElements(t *testing.T) {
	for _, s := range rightShapes() {
		for _, e := range elements(s) {
			text := writtenAll(s, e)
			want := moved(parsed(t, text), func(int) int { return 0 })
			if n := spell.Node(s, e); !sameAll(n, want) {
				t.Fatalf("%x in %v is %v, want %v", e, s, n, want)
			}
			if got := spell.Text(s, e); got != "#"+text {
				t.Fatalf("%x in %v is %q, want #%s", e, s, got, text)
			}
		}
	}
}

func TestTexts(t *testing.T) {
	for _, c := range []struct {
		s    api.Shape
		e    api.Elem
		want string
	}{
		{single(chain(1)), api.Elem{}, "#p"},
		{single(chain(3)), api.Elem{3}, "#r"},
		{single(chain(64)), api.Elem{math.MaxInt64}, "#n63"},
		{single(power(3)), api.Elem{}, "#{}"},
		{single(power(3)), api.Elem{6}, "#{q,r}"},
		{single(power(64)), api.Elem{1<<63 + 2}, "#{q,n63}"},
		{single(table(ladder(3))), api.Elem{1}, "#p"},
		{single(table(turned(ladder(3)))), api.Elem{7}, "#p"},
		{single(table(flat(64))), api.Elem{3}, "#q"},
		{single(grid(apart(2))), api.Elem{}, "#[]"},
		{single(grid(apart(2))), api.Elem{0x301}, "#[p:{q},q:{}]"},
		{single(grid(ladder(2))), api.Elem{0x101}, "#[p:{q},q:{q}]"},
		{single(grid(ring(2))), api.Elem{0x303}, "#[p:{},q:{}]"},
		{single(grid(apart(8))), api.Elem{0x7f << 56}, "#[z:{z}]"},
		{tuple(chain(2)), api.Elem{1}, "#(q)"},
		{tuple(chain(2), power(2), grid(ladder(2)), table(ladder(2))), api.Elem{0, 3, 1, 3}, "#(p,{p,q},[p:{q}],q)"},
	} {
		if got := spell.Text(c.s, c.e); got != c.want {
			t.Errorf("%x is %q, want %q", c.e, got, c.want)
		}
	}
}

func TestNoElements(t *testing.T) {
	type pair struct {
		s api.Shape
		e api.Elem
	}
	l := []pair{
		{single(chain(3)), api.Elem{2}}, {single(chain(3)), api.Elem{7}}, {single(chain(3)), api.Elem{1, 1}}, {single(chain(64)), api.Elem{math.MaxUint64}},
		{single(power(3)), api.Elem{8}}, {single(power(3)), api.Elem{7, 0, 0, 0, 0, 0, 0, 1}},
		{single(grid(ladder(2))), api.Elem{2}}, {single(grid(apart(2))), api.Elem{4}}, {single(grid(apart(2))), api.Elem{1 << 63}},
		{single(table(ladder(3))), api.Elem{0}}, {single(table(ladder(3))), api.Elem{2}}, {single(table(flat(5))), api.Elem{7}},
		{tuple(chain(2), table(ladder(2))), api.Elem{1, 0}}, {tuple(chain(2), chain(2)), api.Elem{1, 2}}, {tuple(chain(2), chain(2)), api.Elem{1, 1, 1}},
	}
	for _, s := range wrongShapes() {
		l = append(l, pair{s, api.Elem{}}, pair{s, api.Elem{1}}, pair{s, api.Elem{3, 3, 3, 3, 3, 3, 3, 3}}, pair{s, api.Elem{math.MaxUint64}})
	}
	for _, s := range rightShapes() {
		for _, e := range elements(s) {
			// Few factors have words with this bit; of the others, the element is none any more.
			if e[len(s.Factors)-1] |= 1 << 62; !shape.Fits(s, e) {
				l = append(l, pair{s, e})
			}
		}
	}
	for _, c := range l {
		if n := spell.Node(c.s, c.e); !reflect.DeepEqual(n, api.Node{}) {
			t.Fatalf("%x in %v is %v", c.e, c.s, n)
		}
		if text := spell.Text(c.s, c.e); text != "#" {
			t.Fatalf("%x in %v is %q", c.e, c.s, text)
		}
	}
}

// listsOf calls names and kids with each list of n and of what is inside.
func listsOf(n *api.Node, names func(l []api.Word), kids func(l []api.Node)) {
	names(n.Names)
	kids(n.Kids)
	for i := range n.Kids {
		listsOf(&n.Kids[i], names, kids)
	}
}

func TestNodeIsNewMemory(t *testing.T) {
	for _, s := range rightShapes() {
		e := shape.Top(s)
		before := copyOf(s)
		want := moved(parsed(t, writtenAll(s, e)), func(int) int { return 0 })
		n := spell.Node(s, e)
		other := spell.Node(s, e)
		// Whatever is appended to a list of the result or written to it is to be seen nowhere else.
		listsOf(&n, func(l []api.Word) {
			for _, w := range l[len(l):cap(l)] {
				if w != (api.Word{}) {
					t.Fatal("what is beyond the length of a list is returned")
				}
			}
			_ = append(l, api.Word{Text: "beyond"})
		}, func(l []api.Node) { _ = append(l, api.Node{Text: "beyond"}) })
		if !sameAll(n, want) {
			t.Fatalf("two lists of %v share memory", n)
		}
		written := 0
		listsOf(&n, func(l []api.Word) {
			for i := range l {
				written++
				if l[i].Text == "written" {
					t.Fatal("two lists of the result share memory")
				}
				l[i].Text = "written"
			}
		}, func(l []api.Node) {
			for i := range l {
				written++
				if l[i].Text == "written" {
					t.Fatal("two lists of the result share memory")
				}
				l[i].Text = "written"
			}
		})
		if !sameAll(other, want) || !reflect.DeepEqual(copyOf(s), before) {
			t.Fatalf("of %v, %d changes are to be seen elsewhere", n, written)
		}
	}
}

// copyOf returns s in new memory, with what is beyond the length of each list of names.
func copyOf(s api.Shape) api.Shape {
	c := api.Shape{Tuple: s.Tuple}
	for _, f := range s.Factors {
		f.Names = append([]string{}, f.Names[:cap(f.Names)]...)
		c.Factors = append(c.Factors, f)
	}
	return c
}

func TestNoArgumentIsModified(t *testing.T) {
	for _, s := range append(rightShapes(), wrongShapes()...) {
		before := copyOf(s)
		for _, text := range []string{"p", "{p,q,no}", "[p:{q,no},q:{p}]", "(p)", "(q,{p,p},[q:{p}])"} {
			n := parsed(t, text)
			same := moved(n, func(at int) int { return at })
			spell.Elem(s, n)
			if !sameAll(n, same) {
				t.Fatalf("%v was %v", n, same)
			}
		}
		spell.Node(s, shape.Top(s))
		spell.Text(s, shape.Top(s))
		if !reflect.DeepEqual(copyOf(s), before) {
			t.Fatalf("%v was %v", s, before)
		}
	}
}

func TestNothingIsKept(t *testing.T) {
	// A call answers by its arguments alone, whatever came before it.
	f := chain(2)
	f.Names = slices.Clone(f.Names)
	n := spell.Node(single(f), api.Elem{1})
	f.Names[1] = "changed"
	if n.Text != "q" || spell.Text(single(f), api.Elem{1}) != "#changed" {
		t.Error(n)
	}
	if e, fault := spell.Elem(single(f), n); e != (api.Elem{}) || fault != (api.Fault{Class: api.Sort}) {
		t.Error(e, fault)
	}
}

// P11.3: the laws.

func TestNodeIsAConstantOfTheElement(t *testing.T) {
	for _, s := range rightShapes() {
		for _, e := range elements(s) {
			n := spell.Node(s, e)
			if !term.IsConst(n) {
				t.Fatalf("%x in %v is no constant: %v", e, s, n)
			}
			if got, f := spell.Elem(s, n); got != e || f != (api.Fault{}) {
				t.Fatalf("%x in %v is %v, which is %x, %v", e, s, n, got, f)
			}
			// The text, as a label, is parsed as the same constant.
			label := parsed(t, spell.Text(s, e)[1:])
			if got, f := spell.Elem(s, label); got != e || f != (api.Fault{}) {
				t.Fatalf("%q in %v is %x, %v", spell.Text(s, e), s, got, f)
			}
		}
	}
}

func TestDifferentElementsHaveDifferentTexts(t *testing.T) {
	for _, f := range small() {
		seen := map[string]int{}
		l := words(f)
		for _, w := range l {
			seen[spell.Text(single(f), api.Elem{w})]++
		}
		if len(seen) != len(l) {
			t.Errorf("%d elements of kind %d have %d texts", len(l), f.Kind, len(seen))
		}
	}
}

func TestElemIsAnElement(t *testing.T) {
	next := mixed()
	for _, s := range rightShapes() {
		for range 30 {
			text := drawnAll(s, next)
			if e, f := spell.Elem(s, parsed(t, text)); f.Class == 0 && !shape.Fits(s, e) {
				t.Fatalf("%q in %v is %x", text, s, e)
			}
		}
	}
}
