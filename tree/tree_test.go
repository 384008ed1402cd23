package tree_test

import (
	"reflect"
	"slices"
	"strings"
	"testing"
	"unsafe"

	"clearance/api"
	"clearance/lex"
	"clearance/tree"
)

// deepest is the greatest number of levels for which the document promises anything.
const deepest = 1 << 16

// closers has the closing kind of each opening one, as the chapter lists them.
var closers = map[byte]byte{40: 41, 123: 125, 91: 93}

// closing reports whether a token of the kind closes a bracket.
func closing(kind byte) bool {
	return kind == 41 || kind == 125 || kind == 93
}

// toks returns a token for each byte of s except blanks, which move the following ones.
func toks(s string) []api.Tok {
	var l []api.Tok
	for i := range len(s) {
		if s[i] != ' ' {
			l = append(l, api.Tok{Kind: s[i], Text: s[i : i+1], At: i})
		}
	}
	return l
}

// wrong returns the offset of the first token that gives a fault, or false if there is none. It takes pairs of brackets out of the kinds, as the package does not.
func wrong(l []api.Tok) (int, bool) {
	var kinds []byte
	var at []int
	for _, t := range l {
		if closers[t.Kind] == 0 && !closing(t.Kind) {
			continue
		}
		kinds, at = append(kinds, t.Kind), append(at, t.At)
		n := len(kinds)
		switch {
		case !closing(t.Kind) && n > 24, closing(t.Kind) && (n == 1 || closers[kinds[n-2]] != t.Kind):
			return t.At, true
		case closing(t.Kind):
			kinds, at = kinds[:n-2], at[:n-2]
		}
	}
	if len(at) > 0 {
		return at[len(at)-1], true
	}
	return 0, false
}

// grown returns the trees of tokens that give no fault, by recursion.
func grown(l []api.Tok) []api.Tree {
	var trees []api.Tree
	for i := 0; i < len(l); i++ {
		if closers[l[i].Kind] == 0 {
			trees = append(trees, api.Tree{Tok: l[i], End: l[i].At})
			continue
		}
		begin, open := i, 1
		for open > 0 {
			i++
			switch {
			case closers[l[i].Kind] != 0:
				open++
			case closing(l[i].Kind):
				open--
			}
		}
		trees = append(trees, api.Tree{Tok: l[begin], Kids: grown(l[begin+1 : i]), End: l[i].At})
	}
	return trees
}

// flat returns the tokens of the trees, by recursion.
func flat(l []api.Tree) []api.Tok {
	var all []api.Tok
	for _, t := range l {
		all = append(all, t.Tok)
		if c := closers[t.Tok.Kind]; c != 0 {
			all = append(all, flat(t.Kids)...)
			all = append(all, api.Tok{Kind: c, Text: string([]byte{c}), At: t.End})
		}
	}
	return all
}

// depth returns the depth of the trees, by recursion.
func depth(l []api.Tree) int {
	most := 0
	for _, t := range l {
		if closers[t.Tok.Kind] != 0 {
			most = max(most, 1+depth(t.Kids))
		}
	}
	return most
}

// same compares the trees by recursion.
func same(a, b []api.Tree) bool {
	if len(a) != len(b) {
		return false
	}
	for i := range a {
		if a[i].Tok != b[i].Tok || a[i].End != b[i].End || !same(a[i].Kids, b[i].Kids) {
			return false
		}
	}
	return true
}

// copied returns trees that share no memory with those of l.
func copied(l []api.Tree) []api.Tree {
	c := slices.Clone(l)
	for i := range c {
		c[i].Kids = copied(c[i].Kids)
	}
	return c
}

// check compares Read with the model, and the other functions with theirs for what is read.
func check(t *testing.T, l []api.Tok) {
	t.Helper()
	got, f := tree.Read(l)
	if at, is := wrong(l); is {
		if got != nil || f != (api.Fault{Class: 2, At: at}) {
			t.Fatalf("Read(%v) = %v, %v, want a fault at %d", l, got, f, at)
		}
		return
	}
	want := grown(l)
	if f != (api.Fault{}) || !same(got, want) {
		t.Fatalf("Read(%v) = %v, %v, want %v", l, got, f, want)
	}
	checkTrees(t, got)
	if back := tree.Flat(got); !slices.Equal(back, l) {
		t.Fatalf("Flat of the trees of %v = %v", l, back)
	}
	if d := tree.Depth(got); d > api.MaxDepth {
		t.Fatalf("Depth of the trees of %v = %d", l, d)
	}
}

// checkTrees compares Flat, Depth and Same with the model.
func checkTrees(t *testing.T, l []api.Tree) {
	t.Helper()
	if got, want := tree.Flat(l), flat(l); !slices.Equal(got, want) {
		t.Fatalf("Flat(%v) = %v, want %v", l, got, want)
	}
	if got, want := tree.Depth(l), depth(l); got != want {
		t.Fatalf("Depth(%v) = %d, want %d", l, got, want)
	}
	if !tree.Same(l, l) || !tree.Same(l, copied(l)) {
		t.Fatalf("%v is not the Same as itself", l)
	}
}

// each calls f with every string of up to n of the letters.
func each(letters string, n int, f func(s string)) {
	level := []string{""}
	for range n + 1 {
		var longer []string
		for _, s := range level {
			f(s)
			for i := range len(letters) {
				longer = append(longer, s+letters[i:i+1])
			}
		}
		level = longer
	}
}

// mixed returns a function that returns numbers below its argument, in an order that is fixed but mixed.
func mixed() func(n int) int {
	x := uint64(1)
	return func(n int) int {
		x = x*6364136223846793005 + 1442695040888963407
		return int(x>>33) % n
	}
}

// drawn returns trees of at most n levels, valid or not, as next draws them.
func drawn(n int, next func(n int) int) []api.Tree {
	const kinds = "(({{[[)}]a#"
	if n == 0 {
		return nil
	}
	l := make([]api.Tree, next(4))
	for i := range l {
		k := next(len(kinds))
		l[i] = api.Tree{Tok: api.Tok{Kind: kinds[k], Text: kinds[next(k+1) : k+1], At: next(99) - 50}, Kids: drawn(n-1, next), End: next(99) - 50}
	}
	return l
}

// nested returns a tree of n levels of the kind, as Read would never return it if n is too great.
func nested(n int, kind byte) []api.Tree {
	var l []api.Tree
	for i := range n {
		l = []api.Tree{{Tok: api.Tok{Kind: kind, Text: string([]byte{kind}), At: n - 1 - i}, Kids: l, End: n + i}}
	}
	return l
}

// lists calls f with every list of trees in l.
func lists(l []api.Tree, f func(l []api.Tree)) {
	f(l)
	for _, t := range l {
		lists(t.Kids, f)
	}
}

// P9.1: Read.

func TestReadExamples(t *testing.T) {
	l, _ := lex.Read("a { b ( ) }")
	got, f := tree.Read(l)
	want := []api.Tree{
		{Tok: api.Tok{Kind: 97, Text: "a", At: 0}, End: 0},
		{Tok: api.Tok{Kind: 123, Text: "{", At: 2}, End: 10, Kids: []api.Tree{
			{Tok: api.Tok{Kind: 97, Text: "b", At: 4}, End: 4},
			{Tok: api.Tok{Kind: 40, Text: "(", At: 6}, End: 8},
		}},
	}
	if f != (api.Fault{}) || !same(got, want) {
		t.Errorf("the first example is read as %v, %v", got, f)
	}
	for _, c := range []struct {
		line string
		at   int
	}{{"( ]", 2}, {"( (", 2}} {
		l, _ := lex.Read(c.line)
		if got, f := tree.Read(l); got != nil || f != (api.Fault{Class: 2, At: c.at}) {
			t.Errorf("%q is read as %v, %v", c.line, got, f)
		}
	}
}

func TestReadFaults(t *testing.T) {
	deep := strings.Repeat("(", 24)
	for _, c := range []struct {
		s  string
		at int
	}{
		{")", 0},
		{"}", 0},
		{"]", 0},
		{"a)", 1},
		{"())", 2},
		{"(a)b]c", 4},
		{"(]", 1},
		{"(}", 1},
		{"[)", 1},
		{"[}", 1},
		{"{)", 1},
		{"{]", 1},
		{"([)]", 2},
		{"{(})", 2},
		{"([{}])}", 6},
		{"(", 0},
		{"{", 0},
		{"[", 0},
		{"((", 1},
		{"(a(b", 2},
		{"()(", 2},
		{"([]", 0},
		{"([]{}", 0},
		{"([]{", 3},
		{"  (  [  ] ", 2},
		// Of two faults the one whose token comes first is reported.
		{"(]]", 1},
		{"([}]", 2},
		{"]([", 0},
		{deep + "(", 24},
		{"a[]" + deep + "(", 27},
		{deep + "a[", 25},
		{deep + "{}", 24},
		{deep + ")(a[", 27},
		{deep + "]", 24},
		{deep + "]{", 24},
		{deep + "{]", 24},
		{deep, 23},
		{deep + ")", 22},
		{deep + strings.Repeat(")", 24) + ")", 48},
	} {
		if got, f := tree.Read(toks(c.s)); got != nil || f != (api.Fault{Class: 2, At: c.at}) {
			t.Errorf("Read(%q) = %v, %v, want a fault at %d", c.s, got, f, c.at)
		}
	}
}

func TestReadNothing(t *testing.T) {
	for _, l := range [][]api.Tok{nil, {}} {
		if got, f := tree.Read(l); len(got) != 0 || f != (api.Fault{}) {
			t.Errorf("Read(%v) = %v, %v", l, got, f)
		}
	}
}

func TestReadShortLists(t *testing.T) {
	each("(){}[]a#", 6, func(s string) { check(t, toks(s)) })
	each("()a", 10, func(s string) { check(t, toks(s)) })
	each("([])", 8, func(s string) { check(t, toks(s)) })
}

// Only the Kind of a token makes it a bracket.
func TestReadEachKind(t *testing.T) {
	for i := range 256 {
		for _, s := range []string{"", "(", ")", "a", string([]byte{byte(i)})} {
			k := api.Tok{Kind: byte(i), Text: s, At: 5}
			check(t, []api.Tok{k, {Kind: 'a', Text: "a", At: 6}})
			check(t, []api.Tok{{Kind: '(', Text: "(", At: 1}, k, {Kind: ')', Text: ")", At: 6}})
			for _, c := range ")}]" {
				check(t, []api.Tok{k, {Kind: byte(c), Text: string(c), At: 6}})
			}
			for j := range 256 {
				check(t, []api.Tok{{Kind: byte(j), Text: ".", At: 4}, {Kind: byte(i), Text: string([]byte{byte(i)}), At: 5}})
			}
		}
	}
}

// A closing token is known by its Kind, whatever its Text is, and leaves nothing but its offset.
func TestReadOtherTexts(t *testing.T) {
	l := []api.Tok{{Kind: '{', Text: "x", At: 3}, {Kind: 'a', Text: "(", At: 7}, {Kind: '}', Text: "", At: -9}}
	want := []api.Tree{{Tok: l[0], Kids: []api.Tree{{Tok: l[1], End: 7}}, End: -9}}
	got, f := tree.Read(l)
	if f != (api.Fault{}) || !same(got, want) {
		t.Errorf("Read = %v, %v", got, f)
	}
	if back := tree.Flat(got); !slices.Equal(back, []api.Tok{l[0], l[1], {Kind: '}', Text: "}", At: -9}}) {
		t.Errorf("Flat = %v", back)
	}
}

// The offsets of the tokens are not those of a line, and are only passed on.
func TestReadAnyOffsets(t *testing.T) {
	next := mixed()
	for range 20000 {
		l := make([]api.Tok, next(12))
		for i := range l {
			const kinds = "()(){}[]a"
			k := next(len(kinds))
			l[i] = api.Tok{Kind: kinds[k], Text: kinds[k : k+1], At: next(1<<20) - 1<<19}
		}
		check(t, l)
	}
}

func TestReadAtTheLimit(t *testing.T) {
	const open, close = "([{", ")]}"
	next := mixed()
	for n := 20; n <= 30; n++ {
		for range 50 {
			var before, after string
			for range n {
				k := next(3)
				before += open[k : k+1]
				after = close[k:k+1] + after
				if next(4) == 0 {
					before += "a()"[next(2):]
				}
				if next(4) == 0 {
					after = "[]#"[:2+next(2)] + after
				}
			}
			// An empty bracket beside the innermost one is one level more.
			check(t, toks(before+"a"+strings.Repeat("#", next(3))+after))
			check(t, toks(before+after+before+after))
			check(t, toks(after+before))
			check(t, toks(before+after[:len(after)-1]))
			check(t, toks(before+"()"+after))
			check(t, toks(before))
		}
	}
	l, f := tree.Read(toks(strings.Repeat("[", 24) + strings.Repeat("]", 24)))
	if f != (api.Fault{}) || tree.Depth(l) != api.MaxDepth {
		t.Errorf("24 brackets are read with the depth %d, %v", tree.Depth(l), f)
	}
}

func TestReadLongLists(t *testing.T) {
	const n = 1 << 16
	deep, up := strings.Repeat("(", 23), strings.Repeat(")", 23)
	check(t, toks(strings.Repeat("a", n)))
	check(t, toks(strings.Repeat("()", n)))
	check(t, toks("{"+strings.Repeat("[a]#", n)+"}"))
	check(t, toks(deep+strings.Repeat("{}", n)+up))
	check(t, toks(deep+strings.Repeat("{}", n)+"{"+up))
	check(t, toks(strings.Repeat(deep+up, n/8)))
	check(t, toks(strings.Repeat("(", n)))
	check(t, toks(strings.Repeat(")", n)))
}

func TestReadSharesNoMemory(t *testing.T) {
	l := toks("a(b(c)[]{d{e f}})[g](h)ijklm")
	before := slices.Clone(l)
	got, _ := tree.Read(l[:len(l):len(l)])
	other, _ := tree.Read(l)
	type span struct{ begin, end uintptr }
	var spans []span
	add := func(list []api.Tree) {
		if cap(list) > 0 {
			begin := uintptr(unsafe.Pointer(unsafe.SliceData(list)))
			spans = append(spans, span{begin, begin + uintptr(cap(list))*unsafe.Sizeof(api.Tree{})})
		}
	}
	lists(got, add)
	lists(other, add)
	for i, a := range spans {
		for _, b := range spans[:i] {
			if a.begin < b.end && b.begin < a.end {
				t.Fatal("two lists share memory")
			}
		}
	}
	if !slices.Equal(l, before) {
		t.Error("the tokens have changed")
	}
	clear(l)
	if !same(got, grown(before)) {
		t.Error("the trees share memory with the tokens")
	}
}

// What lies beyond the length of a list is neither read nor written.
func TestListsAreOnlyRead(t *testing.T) {
	l := toks("(a)]b")
	before := slices.Clone(l)
	got, f := tree.Read(l[:3])
	if f != (api.Fault{}) || len(got) != 1 || len(got[0].Kids) != 1 {
		t.Errorf("Read = %v, %v", got, f)
	}
	if !slices.Equal(l, before) {
		t.Errorf("the tokens have become %v", l)
	}
	trees, _ := tree.Read(toks("a(b[c]d)e{f}"))
	trees[1].Kids = append(trees[1].Kids, trees[3])[:3]
	kept := copied(trees[:cap(trees)])
	for _, n := range []int{0, 1, 2, 4} {
		checkTrees(t, trees[:n])
	}
	for _, n := range []int{1, 2, 3} {
		if tree.Same(trees[:n], trees) || tree.Same(trees, trees[:n]) {
			t.Errorf("the first %d trees are the same as all", n)
		}
	}
	if !reflect.DeepEqual(copied(trees[:cap(trees)]), kept) {
		t.Errorf("the trees have become %v", trees)
	}
}

// P9.2: Flat, Depth, Same.

func TestFlat(t *testing.T) {
	a, open := api.Tok{Kind: 'a', Text: "a", At: 4}, api.Tok{Kind: '(', Text: "(", At: 7}
	kids := []api.Tree{{Tok: a, End: 8}}
	for _, c := range []struct {
		l    []api.Tree
		want []api.Tok
	}{
		{nil, nil},
		{[]api.Tree{}, nil},
		{[]api.Tree{{}}, []api.Tok{{}}},
		{[]api.Tree{{Tok: a}}, []api.Tok{a}},
		{[]api.Tree{{Tok: a, Kids: kids, End: 3}}, []api.Tok{a}},
		{[]api.Tree{{Tok: open, End: 9}}, []api.Tok{open, {Kind: 41, Text: ")", At: 9}}},
		{[]api.Tree{{Tok: open, Kids: kids, End: -9}}, []api.Tok{open, a, {Kind: 41, Text: ")", At: -9}}},
		{[]api.Tree{{Tok: api.Tok{Kind: '{'}, Kids: kids}, {Tok: a}}, []api.Tok{{Kind: '{'}, a, {Kind: 125, Text: "}"}, a}},
		{[]api.Tree{{Tok: api.Tok{Kind: '[', Text: "xyz"}, End: 1}}, []api.Tok{{Kind: '[', Text: "xyz"}, {Kind: 93, Text: "]", At: 1}}},
		{[]api.Tree{{Tok: api.Tok{Kind: ')', Text: "("}, Kids: kids}}, []api.Tok{{Kind: ')', Text: "("}}},
		{[]api.Tree{{Tok: api.Tok{Kind: 'a', Text: "("}, Kids: kids}}, []api.Tok{{Kind: 'a', Text: "("}}},
	} {
		if got := tree.Flat(c.l); !slices.Equal(got, c.want) {
			t.Errorf("Flat(%v) = %v, want %v", c.l, got, c.want)
		}
	}
}

func TestDepth(t *testing.T) {
	in := func(kind byte, kids ...api.Tree) api.Tree { return api.Tree{Tok: api.Tok{Kind: kind}, Kids: kids} }
	for _, c := range []struct {
		l    []api.Tree
		want int
	}{
		{nil, 0},
		{[]api.Tree{{}}, 0},
		{[]api.Tree{in('a')}, 0},
		{[]api.Tree{in('(')}, 1},
		{[]api.Tree{in('{')}, 1},
		{[]api.Tree{in('[')}, 1},
		{[]api.Tree{in(')')}, 0},
		{[]api.Tree{in('}')}, 0},
		{[]api.Tree{in(']')}, 0},
		{[]api.Tree{in('('), in('('), in('(')}, 1},
		{[]api.Tree{in('(', in('a'))}, 1},
		{[]api.Tree{in('(', in('[', in('{'))), in('(')}, 3},
		{[]api.Tree{in('('), in('(', in('['))}, 2},
		{[]api.Tree{in('a', in('('))}, 0},
		{[]api.Tree{in('(', in('a', in('(', in('('))))}, 1},
		{[]api.Tree{in(')', in('(')), in('(')}, 1},
		{[]api.Tree{in('(', in(')'), in(']'), in('('))}, 2},
		{[]api.Tree{in(')'), in(')'), in('(', in('('))}, 2},
	} {
		if got := tree.Depth(c.l); got != c.want {
			t.Errorf("Depth(%v) = %d, want %d", c.l, got, c.want)
		}
	}
}

func TestSame(t *testing.T) {
	read := func(s string) []api.Tree {
		l, f := tree.Read(toks(s))
		if f != (api.Fault{}) {
			t.Fatalf("%q gives %v", s, f)
		}
		return l
	}
	texts := []string{"", "a", "aa", "#", " a", "()", "[]", "{}", "( )", " ()", "(a)", "(aa)", "(a)a", "(#)", "((a))", "(a())", "(()a)", "(a[])", "a(a)", "[a]", "()()", "(())", "(a )", "(a)(a)", "(a)(#)", "(())(a)", "((a)(#))", "((#)(a))"}
	for i, s := range texts {
		for j, u := range texts {
			if got := tree.Same(read(s), read(u)); got != (i == j) {
				t.Errorf("Same of %q and %q = %v", s, u, got)
			}
		}
	}
}

func TestSameOfOneTree(t *testing.T) {
	base := api.Tree{Tok: api.Tok{Kind: 'a', Text: "a", At: 1}, Kids: []api.Tree{{Tok: api.Tok{Kind: 'b'}, End: 2}}, End: 3}
	for _, change := range []func(t *api.Tree){
		func(t *api.Tree) { t.Tok.Kind = 'b' },
		func(t *api.Tree) { t.Tok.Text = "b" },
		func(t *api.Tree) { t.Tok.Text = "" },
		func(t *api.Tree) { t.Tok.At = 0 },
		func(t *api.Tree) { t.End = 1 },
		func(t *api.Tree) { t.Kids = nil },
		func(t *api.Tree) { t.Kids = append(t.Kids, api.Tree{}) },
		func(t *api.Tree) { t.Kids[0].End = 0 },
		func(t *api.Tree) { t.Kids[0].Tok.Kind = 'c' },
		func(t *api.Tree) { t.Kids[0].Kids = []api.Tree{{}} },
	} {
		for _, kind := range []byte{'a', '(', ')', 0} {
			base.Tok.Kind = kind
			other := copied([]api.Tree{base})
			change(&other[0])
			if tree.Same([]api.Tree{base}, other) || tree.Same(other, []api.Tree{base}) {
				t.Errorf("%v is the same as %v", base, other)
			}
			// Kids of Kids count as well.
			x, y := []api.Tree{{}, {Kids: []api.Tree{{}, base}}, {}}, []api.Tree{{}, {Kids: []api.Tree{{}, other[0]}}, {}}
			if tree.Same(x, y) || tree.Same(y, x) || !tree.Same(x, copied(x)) {
				t.Errorf("%v is the same as %v, or not as itself", x, y)
			}
		}
	}
	if !tree.Same(nil, []api.Tree{}) || !tree.Same([]api.Tree{}, nil) || !tree.Same([]api.Tree{{Kids: []api.Tree{}}}, []api.Tree{{}}) {
		t.Error("an empty list is not the same as a nil list")
	}
	if tree.Same(nil, []api.Tree{{}}) || tree.Same([]api.Tree{{}}, nil) {
		t.Error("a nil list is the same as one zero tree")
	}
}

// Trees that Read would not return are valid arguments.
func TestMixedTrees(t *testing.T) {
	next := mixed()
	for range 20000 {
		a := drawn(5, next)
		checkTrees(t, a)
		b := drawn(3, next)
		if got := tree.Same(a, b); got != same(a, b) {
			t.Fatalf("Same(%v, %v) = %v", a, b, got)
		}
		c := copied(a)
		for l := c; len(l) > 0; {
			k := &l[next(len(l))]
			l = k.Kids
			if len(l) == 0 || next(3) == 0 {
				k.End++
				break
			}
		}
		if got := tree.Same(a, c); got != (len(a) == 0) {
			t.Fatalf("Same(%v, %v) = %v", a, c, got)
		}
	}
}

func TestSharesNoMemory(t *testing.T) {
	l, _ := tree.Read(toks("a(b(c)[])"))
	kept := copied(l)
	got := tree.Flat(l)
	want := slices.Clone(got)
	clear(got[:cap(got)])
	if !same(l, kept) || !slices.Equal(tree.Flat(l), want) {
		t.Error("the tokens share memory with the trees, or are kept")
	}
}

// More levels than Read allows are promised too, up to the bound of the document.
func TestDeepTrees(t *testing.T) {
	for _, n := range []int{25, 100, deepest} {
		for kind, end := range closers {
			l := nested(n, kind)
			if d := tree.Depth(l); d != n {
				t.Errorf("%d levels have the depth %d", n, d)
			}
			f := tree.Flat(l)
			if len(f) != 2*n {
				t.Fatalf("%d levels have %d tokens", n, len(f))
			}
			for i, k := range f {
				if want := [2]byte{kind, end}[i/n]; k.At != i || k.Kind != want || k.Text != string([]byte{want}) {
					t.Fatalf("token %d of %d levels is %v", i, n, k)
				}
			}
			if !tree.Same(l, nested(n, kind)) || tree.Same(l, nested(n-1, kind)) {
				t.Errorf("%d levels are the same as %d, or not as themselves", n, n-1)
			}
		}
		plain := nested(n, 'a')
		if tree.Depth(plain) != 0 || len(tree.Flat(plain)) != 1 || !tree.Same(plain, nested(n, 'a')) || tree.Same(plain, nested(n+1, 'a')) {
			t.Errorf("%d levels of names are not one name", n)
		}
	}
}

// Trees of one bracket each below many levels must not take time for each level.
func TestDeepAndWideTrees(t *testing.T) {
	const levels, n = 1 << 14, 1 << 16
	l := make([]api.Tree, n)
	for i := range l {
		l[i] = api.Tree{Tok: api.Tok{Kind: '[', Text: "["}, Kids: []api.Tree{{}}}
	}
	for range levels {
		l = []api.Tree{{Tok: api.Tok{Kind: '(', Text: "("}, Kids: l}}
	}
	if d := tree.Depth(l); d != levels+1 {
		t.Errorf("the depth is %d", d)
	}
	if f := tree.Flat(l); len(f) != 2*levels+3*n {
		t.Errorf("there are %d tokens", len(f))
	}
	if !tree.Same(l, l) {
		t.Error("the trees are not the same as themselves")
	}
}

// P9.3: the laws.

func TestFlatInvertsRead(t *testing.T) {
	next := mixed()
	for range 5000 {
		// A closing token with another Text cannot be found again.
		f := slices.DeleteFunc(tree.Flat(drawn(6, next)), func(k api.Tok) bool { return closing(k.Kind) && k.Text != string([]byte{k.Kind}) })
		if _, is := wrong(f); is {
			continue
		}
		got, fault := tree.Read(f)
		if fault != (api.Fault{}) || !slices.Equal(tree.Flat(got), f) || tree.Depth(got) > api.MaxDepth {
			t.Fatalf("Read(%v) = %v, %v", f, got, fault)
		}
		again, _ := tree.Read(tree.Flat(got))
		if !tree.Same(got, again) {
			t.Fatalf("%v is read again as %v", got, again)
		}
	}
	for _, line := range []string{"", "leq k x #hi", "table t {a,b,c} {a<b,b<c}", "roweq k [f=x,g=#hi|r] [f=#(hi,[p:{q}])|s]", "leq k +(x,&(y,#{a,b}),z) w -- (", "a [ b { c ( d ) } ]"} {
		l, _ := lex.Read(line)
		check(t, l)
	}
}
