package term_test

import (
	"math"
	"reflect"
	"slices"
	"strings"
	"testing"
	"unsafe"

	"clearance/api"
	"clearance/lex"
	"clearance/term"
	"clearance/tree"
)

// deepest is the greatest number of levels for which the document promises anything.
const deepest = 1 << 16

// parser is one of the functions that return a node.
type parser = func(l []api.Tree, at, end int) (api.Node, int, api.Fault)

// The model: a grammar decides about faults, token by token, and right trees are split at their commas.

// grammar has for each symbol (a capital letter) what it may become. No two of these begin with the same token, and the empty one is for tokens with which no other one begins.
var grammar = map[byte][]string{
	'C': {"a", "{S}", "(T)", "[G]"},
	'S': {"aM", ""},
	'W': {"aM"},
	'M': {",aM", ""},
	'T': {"CU"},
	'U': {",CU", ""},
	'G': {"RH", ""},
	'R': {"a:{S}"},
	'H': {",RH", ""},
	'L': {"a", "#C", "+(J)", "&(J)"},
	'J': {"LK"},
	'K': {",LK", ""},
	'A': {"a", "#C"},
	'X': {"a", "[F]"},
	'F': {"DE", "|a", ""},
	'D': {"a=A"},
	'E': {",DE", "|a", ""},
	'B': {"{W}"},
}

// firsts returns the tokens with which s may begin.
func firsts(s string) string {
	if s == "" || grammar[s[0]] == nil {
		return s[:min(1, len(s))]
	}
	all := ""
	for _, r := range grammar[s[0]] {
		all += firsts(r)
	}
	return all
}

// flat returns the tokens of the trees with the closing ones, and for each the index of its outermost tree.
func flat(l []api.Tree) (toks []api.Tok, outer []int) {
	for i, t := range l {
		// A tree with another token, be it a closing one, is nowhere right.
		if strings.IndexByte("a#+&({[,:=|", t.Tok.Kind) < 0 {
			t.Tok.Kind = 0
		}
		toks = append(toks, t.Tok)
		if c := strings.IndexByte("({[", t.Tok.Kind); c >= 0 {
			kids, _ := flat(t.Kids)
			toks = append(append(toks, kids...), api.Tok{Kind: ")}]"[c], At: t.End})
		}
		for len(outer) < len(toks) {
			outer = append(outer, i)
		}
	}
	return toks, outer
}

// derived returns how many trees of l the symbol becomes, or the offset of the first token that it cannot become.
func derived(symbol byte, l []api.Tree, end int) (trees, fault int, is bool) {
	toks, outer := flat(l)
	toks, outer = append(toks, api.Tok{Kind: '$', At: end}), append(outer, len(l))
	todo := []byte{symbol}
	for len(todo) > 0 {
		top := todo[len(todo)-1]
		todo = todo[:len(todo)-1]
		into := slices.IndexFunc(grammar[top], func(r string) bool { return strings.IndexByte(firsts(r), toks[0].Kind) >= 0 })
		switch {
		case top == toks[0].Kind:
			toks, outer = toks[1:], outer[1:]
		case into >= 0:
			r := []byte(grammar[top][into])
			slices.Reverse(r)
			todo = append(todo, r...)
		case !slices.Contains(grammar[top], ""):
			return 0, toks[0].At, false
		}
	}
	return outer[0], 0, true
}

// split returns the pieces of l between its commas.
func split(l []api.Tree) [][]api.Tree {
	var pieces [][]api.Tree
	for len(l) > 0 {
		n := slices.IndexFunc(l, func(t api.Tree) bool { return t.Tok.Kind == ',' })
		if n < 0 {
			return append(pieces, l)
		}
		pieces = append(pieces, l[:n])
		l = l[n+1:]
	}
	return pieces
}

// nodesOf returns the nodes of the pieces of l.
func nodesOf(l []api.Tree, node func(l []api.Tree) api.Node) []api.Node {
	var nodes []api.Node
	for _, p := range split(l) {
		nodes = append(nodes, node(p))
	}
	return nodes
}

// wordsOf returns the names of l.
func wordsOf(l []api.Tree) []api.Word {
	var words []api.Word
	for _, p := range split(l) {
		words = append(words, api.Word{Text: p[0].Tok.Text, At: p[0].Tok.At})
	}
	return words
}

// constOf returns the constant that is l.
func constOf(l []api.Tree) api.Node {
	n := api.Node{At: l[0].Tok.At}
	switch l[0].Tok.Kind {
	case 97:
		n.Kind, n.Text = 2, l[0].Tok.Text
	case '{':
		n.Kind, n.Names = 3, wordsOf(l[0].Kids)
	case '(':
		n.Kind, n.Kids = 4, nodesOf(l[0].Kids, constOf)
	case '[':
		n.Kind, n.Kids = 5, nodesOf(l[0].Kids, func(l []api.Tree) api.Node {
			return api.Node{Kind: 6, At: l[0].Tok.At, Text: l[0].Tok.Text, Names: wordsOf(l[2].Kids)}
		})
	}
	return n
}

// labelOf returns the label that is l.
func labelOf(l []api.Tree) api.Node {
	n := api.Node{At: l[0].Tok.At}
	switch l[0].Tok.Kind {
	case 97:
		n.Kind, n.Text = 1, l[0].Tok.Text
	case '#':
		n.Kind, n.Kids = 7, []api.Node{constOf(l[1:])}
	case '+':
		n.Kind, n.Kids = 8, nodesOf(l[1].Kids, labelOf)
	case '&':
		n.Kind, n.Kids = 9, nodesOf(l[1].Kids, labelOf)
	}
	return n
}

// rowOf returns the row that is l.
func rowOf(l []api.Tree) api.Node {
	if l[0].Tok.Kind == 97 {
		return labelOf(l)
	}
	n := api.Node{Kind: 10, At: l[0].Tok.At}
	fields := l[0].Kids
	if k := len(fields) - 2; k >= 0 && fields[k].Tok.Kind == '|' {
		n.Names = wordsOf(fields[k+1:])
		fields = fields[:k]
	}
	n.Kids = nodesOf(fields, func(l []api.Tree) api.Node {
		return api.Node{Kind: 11, At: l[0].Tok.At, Text: l[0].Tok.Text, Kids: []api.Node{labelOf(l[2:])}}
	})
	return n
}

// sameAll reports whether the nodes are equal with their offsets; an empty list is like none.
func sameAll(a, b api.Node) bool {
	return a.Kind == b.Kind && a.At == b.At && a.Text == b.Text && slices.Equal(a.Names, b.Names) && slices.EqualFunc(a.Kids, b.Kids, sameAll)
}

// check compares the four functions that parse with the model, at the index at of l.
func check(t *testing.T, l []api.Tree, at, end int) {
	t.Helper()
	var rest []api.Tree
	if at >= 0 && at <= len(l) {
		rest = l[at:]
	}
	for _, c := range []struct {
		symbol byte
		parse  parser
		node   func(l []api.Tree) api.Node
		is     func(n api.Node) bool
	}{
		{'C', term.Const, constOf, term.IsConst},
		{'L', term.Label, labelOf, term.IsLabel},
		{'X', term.Row, rowOf, term.IsRow},
	} {
		n, next, f := c.parse(l, at, end)
		trees, fault, is := derived(c.symbol, rest, end)
		if !is {
			if !reflect.DeepEqual(n, api.Node{}) || next != 0 || f != (api.Fault{Class: 2, At: fault}) {
				t.Fatalf("%c at %d of %v gives %v, %d, %v, want a fault at %d", c.symbol, at, l, n, next, f, fault)
			}
			continue
		}
		want := c.node(rest[:trees])
		if !sameAll(n, want) || next != at+trees || f != (api.Fault{}) {
			t.Fatalf("%c at %d of %v gives %v, %d, %v, want %v, %d", c.symbol, at, l, n, next, f, want, at+trees)
		}
		if right := namesRight(rest[:trees]); c.is(n) != right {
			t.Fatalf("%v could be parsed: %v", n, !right)
		}
		if text := bare(rest[:trees]); term.Text(n) != text {
			t.Fatalf("%v has the Text %q, want %q", n, term.Text(n), text)
		}
	}
	words, f := term.Words(l, at, end)
	trees, fault, is := derived('B', rest, end)
	if !is {
		if words != nil || f != (api.Fault{Class: 2, At: fault}) {
			t.Fatalf("Words at %d of %v are %v, %v, want a fault at %d", at, l, words, f, fault)
		}
		return
	}
	if want := wordsOf(rest[:trees][0].Kids); !slices.Equal(words, want) || f != (api.Fault{}) {
		t.Fatalf("Words at %d of %v are %v, %v, want %v", at, l, words, f, want)
	}
}

// namesRight reports whether the names of the trees are names.
func namesRight(l []api.Tree) bool {
	toks, _ := flat(l)
	return !slices.ContainsFunc(toks, func(k api.Tok) bool { return k.Kind == 97 && !lex.Right(k) })
}

// bare returns the texts of the names and the kinds of the other tokens of the trees.
func bare(l []api.Tree) string {
	toks, _ := flat(l)
	var b strings.Builder
	for _, k := range toks {
		if k.Kind == 97 {
			b.WriteString(k.Text)
		} else {
			b.WriteByte(k.Kind)
		}
	}
	return b.String()
}

// read returns the trees of a line.
func read(t *testing.T, line string) []api.Tree {
	t.Helper()
	toks, f := lex.Read(line)
	if f != (api.Fault{}) {
		t.Fatalf("%q gives %v", line, f)
	}
	l, f := tree.Read(toks)
	if f != (api.Fault{}) {
		t.Fatalf("%q gives %v", line, f)
	}
	return l
}

// parsed returns what f parses from the whole line.
func parsed(t *testing.T, f parser, line string) api.Node {
	t.Helper()
	l := read(t, line)
	n, next, fault := f(l, 0, len(line))
	if fault != (api.Fault{}) || next != len(l) {
		t.Fatalf("%q gives %v, %d, %v", line, n, next, fault)
	}
	return n
}

// each calls f with the trees of every string of up to n of the tokens whose brackets fit together.
func each(tokens string, n int, f func(l []api.Tree)) {
	var toks []api.Tok
	var longer func(open string)
	longer = func(open string) {
		if open == "" {
			l, _ := tree.Read(toks)
			f(l)
		}
		if len(toks)+len(open) == n {
			return
		}
		for i := range len(tokens) {
			inner := open
			if c := strings.IndexByte("({[", tokens[i]); c >= 0 {
				inner += ")}]"[c : c+1]
			} else if strings.IndexByte(")}]", tokens[i]) >= 0 {
				if !strings.HasSuffix(open, tokens[i:i+1]) {
					continue
				}
				inner = open[:len(open)-1]
			}
			if len(toks)+1+len(inner) > n {
				continue
			}
			toks = append(toks, api.Tok{Kind: tokens[i], Text: tokens[i : i+1], At: len(toks) * 2})
			longer(inner)
			toks = toks[:len(toks)-1]
		}
	}
	longer("")
}

// mixed returns a function that returns numbers below its argument, in an order that is fixed but mixed.
func mixed() func(n int) int {
	x := uint64(1)
	return func(n int) int {
		x = x*6364136223846793005 + 1442695040888963407
		return int(x>>33) % n
	}
}

// grown returns a text that the symbol becomes, of at most n levels where the grammar lets one end.
func grown(s string, n int, next func(n int) int) string {
	var b strings.Builder
	for i := range len(s) {
		r := grammar[s[i]]
		switch {
		case s[i] == 'a':
			b.WriteString([]string{"a", "b", "x", "hi", "a_1", "abcdefghijklmnop"}[next(6)])
		case r == nil:
			b.WriteByte(s[i])
		case n == 0 && slices.Contains(r, ""):
		case n == 0:
			b.WriteString(grown(r[0], 0, next))
		default:
			b.WriteString(grown(r[next(len(r))], n-1, next))
		}
	}
	return b.String()
}

// drawn returns trees of at most n levels, as tree.Read would mostly not return them.
func drawn(n int, next func(n int) int) []api.Tree {
	const kinds = "aaaaaa##+&(({{[[,,,::==||)}<Cz\x00"
	if n == 0 {
		return nil
	}
	l := make([]api.Tree, next(6))
	for i := range l {
		k := next(len(kinds))
		l[i] = api.Tree{Tok: api.Tok{Kind: kinds[k], Text: []string{"a", "b", "", "1x", "("}[next(5)], At: next(99) - 50}, Kids: drawn(n-1, next), End: next(99) - 50}
	}
	return l
}

// marred returns s with some of its bytes replaced, removed or added.
func marred(s string, next func(n int) int) string {
	const tokens = "ab,:=|#+&(){}[]"
	for range 1 + next(2) {
		i := next(len(s) + 1)
		j := min(i+next(2), len(s))
		k := next(len(tokens))
		s = s[:i] + tokens[k:k+next(2)] + s[j:]
	}
	return s
}

// P10.1: Const, Label, Row.

func TestExamples(t *testing.T) {
	n := parsed(t, term.Label, "+(x,#{a,b})")
	want := api.Node{Kind: api.NodeJoin, Kids: []api.Node{
		{Kind: api.NodeVar, At: 2, Text: "x"},
		{Kind: api.NodeConst, At: 4, Kids: []api.Node{
			{Kind: api.NodeSet, At: 5, Names: []api.Word{{Text: "a", At: 6}, {Text: "b", At: 8}}},
		}},
	}}
	if !sameAll(n, want) {
		t.Errorf("the first example is %v", n)
	}
	n = parsed(t, term.Row, "[f=x,g=#hi|r]")
	want = api.Node{Kind: api.NodeRow, Names: []api.Word{{Text: "r", At: 11}}, Kids: []api.Node{
		{Kind: api.NodeField, At: 1, Text: "f", Kids: []api.Node{{Kind: api.NodeVar, At: 3, Text: "x"}}},
		{Kind: api.NodeField, At: 5, Text: "g", Kids: []api.Node{
			{Kind: api.NodeConst, At: 7, Kids: []api.Node{{Kind: api.NodePoint, At: 8, Text: "hi"}}},
		}},
	}}
	if !sameAll(n, want) {
		t.Errorf("the second example is %v", n)
	}
	n, next, f := term.Label(read(t, "+()"), 0, 3)
	if !reflect.DeepEqual(n, api.Node{}) || next != 0 || f != (api.Fault{Class: api.Form, At: 2}) {
		t.Errorf("the third example is %v, %d, %v", n, next, f)
	}
}

func TestKinds(t *testing.T) {
	for _, c := range []struct {
		parse parser
		line  string
		kind  int
		kids  []int
		names string
	}{
		{term.Const, "a", api.NodePoint, nil, ""},
		{term.Const, "{}", api.NodeSet, nil, ""},
		{term.Const, "{b,a,b}", api.NodeSet, nil, "b a b"},
		{term.Const, "(a)", api.NodeTuple, []int{api.NodePoint}, ""},
		{term.Const, "(a,{},[],(a))", api.NodeTuple, []int{api.NodePoint, api.NodeSet, api.NodeGrid, api.NodeTuple}, ""},
		{term.Const, "[]", api.NodeGrid, nil, ""},
		{term.Const, "[p:{},p:{q,p}]", api.NodeGrid, []int{api.NodeRule, api.NodeRule}, ""},
		{term.Label, "a", api.NodeVar, nil, ""},
		{term.Label, "#a", api.NodeConst, []int{api.NodePoint}, ""},
		{term.Label, "#(a)", api.NodeConst, []int{api.NodeTuple}, ""},
		{term.Label, "+(a)", api.NodeJoin, []int{api.NodeVar}, ""},
		{term.Label, "&(a,#a,+(b),&(c))", api.NodeMeet, []int{api.NodeVar, api.NodeConst, api.NodeJoin, api.NodeMeet}, ""},
		{term.Row, "a", api.NodeVar, nil, ""},
		{term.Row, "[]", api.NodeRow, nil, ""},
		{term.Row, "[|r]", api.NodeRow, nil, "r"},
		{term.Row, "[f=a]", api.NodeRow, []int{api.NodeField}, ""},
		{term.Row, "[f=a,f=#[]|r]", api.NodeRow, []int{api.NodeField, api.NodeField}, "r"},
	} {
		n := parsed(t, c.parse, c.line)
		var kids []int
		for _, k := range n.Kids {
			kids = append(kids, k.Kind)
		}
		var names []string
		for _, w := range n.Names {
			names = append(names, w.Text)
		}
		if n.Kind != c.kind || !slices.Equal(kids, c.kids) || strings.Join(names, " ") != c.names {
			t.Errorf("%q is parsed as %v", c.line, n)
		}
	}
}

func TestFaults(t *testing.T) {
	for _, c := range []struct {
		parse parser
		line  string
		at    int
	}{
		{term.Const, "", 9},
		{term.Const, "#a", 0},
		{term.Const, "+(a)", 0},
		{term.Const, "{,}", 1},
		{term.Const, "{a,}", 3},
		{term.Const, "{a b}", 3},
		{term.Const, "{a,,b}", 3},
		{term.Const, "{a,(b)}", 3},
		{term.Const, "{|}", 1},
		{term.Const, "{|a}", 1},
		{term.Const, "()", 1},
		{term.Const, "(  )", 3},
		{term.Const, "(#a)", 1},
		{term.Const, "(a,)", 3},
		{term.Const, "(a a)", 3},
		{term.Const, "({a,},)", 4},
		{term.Const, "(a,({}),(()))", 10},
		{term.Const, "[a]", 2},
		{term.Const, "[a:]", 3},
		{term.Const, "[a:b]", 3},
		{term.Const, "[a:(b)]", 3},
		{term.Const, "[a{b}]", 2},
		{term.Const, "[:{b}]", 1},
		{term.Const, "[{b}]", 1},
		{term.Const, "[a:{b},]", 7},
		{term.Const, "[a:{b}|c]", 6},
		{term.Const, "[|a]", 1},
		{term.Const, "[a=b]", 2},
		{term.Label, "", 9},
		{term.Label, "(a)", 0},
		{term.Label, "[]", 0},
		{term.Label, "#", 9},
		{term.Label, "##a", 1},
		{term.Label, "#+(a)", 1},
		{term.Label, "+", 9},
		{term.Label, "+a", 1},
		{term.Label, "+{a}", 1},
		{term.Label, "+[a]", 1},
		{term.Label, "&", 9},
		{term.Label, "& &(a)", 2},
		{term.Label, "&()", 2},
		{term.Label, "+(+)", 3},
		{term.Label, "+(#)", 3},
		{term.Label, "+(#,a)", 3},
		{term.Label, "+(a,)", 4},
		{term.Label, "+(a|a)", 3},
		{term.Label, "+(a,(a))", 4},
		{term.Label, "+(#(),b,)", 4},
		{term.Row, "", 9},
		{term.Row, "#a", 0},
		{term.Row, "(a)", 0},
		{term.Row, "{}", 0},
		{term.Row, "[f]", 2},
		{term.Row, "[f=]", 3},
		{term.Row, "[f=+(x)]", 3},
		{term.Row, "[f=&(x)]", 3},
		{term.Row, "[f=(x)]", 3},
		{term.Row, "[f=#]", 4},
		{term.Row, "[f:x]", 2},
		{term.Row, "[=x]", 1},
		{term.Row, "[f=x,]", 5},
		{term.Row, "[f=x,|r]", 5},
		{term.Row, "[f=x g=y]", 5},
		{term.Row, "[|]", 2},
		{term.Row, "[||r]", 2},
		{term.Row, "[|#r]", 2},
		{term.Row, "[|[]]", 2},
		{term.Row, "[|r|s]", 3},
		{term.Row, "[|r,s]", 3},
		{term.Row, "[f=x|r,g=y]", 6},
		{term.Row, "[,f=x]", 1},
	} {
		l := read(t, c.line)
		if n, next, f := c.parse(l, 0, 9); !reflect.DeepEqual(n, api.Node{}) || next != 0 || f != (api.Fault{Class: 2, At: c.at}) {
			t.Errorf("%q gives %v, %d, %v, want a fault at %d", c.line, n, next, f, c.at)
		}
		check(t, l, 0, 9)
	}
}

func TestAllShortTrees(t *testing.T) {
	try := func(l []api.Tree) { check(t, l, 0, 77) }
	each("a#+&(){}[],:=|<", 5, try)
	each("a,(){}", 8, try)
	each("a:[]{},", 7, try)
	each("a#+(),", 8, try)
	each("a=|[],", 8, try)
	each("a=#[](", 7, try)
}

// Wherever a node begins, what precedes it does not matter, and what follows it is not looked at.
func TestEachIndex(t *testing.T) {
	l := read(t, "(a +(x,&(y)) #{a,b} [f=x|r] {a,b} = () # (a) + + [p:{}] & (a) #) a | [a:{}] [] #")
	for at := -3; at < len(l)+4; at++ {
		check(t, l, at, 44)
	}
	l = l[0].Kids
	for at := -3; at < len(l)+4; at++ {
		check(t, l, at, -44)
		check(t, l[:len(l)-1], at, 0)
	}
	for _, at := range []int{math.MinInt, math.MinInt + 1, -1, math.MaxInt - 1, math.MaxInt} {
		check(t, l, at, math.MinInt)
		check(t, nil, at, math.MaxInt)
		check(t, []api.Tree{}, at, 1)
	}
}

func TestMixedLines(t *testing.T) {
	next := mixed()
	right := 0
	for range 60000 {
		s := grown([]string{"C", "L", "X", "B"}[next(4)], 3+next(9), next)
		if next(4) > 0 {
			s = marred(s, next)
		}
		toks, f := lex.Read(s)
		if f != (api.Fault{}) {
			continue
		}
		l, f := tree.Read(toks)
		if f == (api.Fault{}) {
			right++
			check(t, l, next(1+len(l)/2), len(s)+next(3))
		}
	}
	if right < 20000 {
		t.Errorf("only %d lines have trees", right)
	}
}

// A name is known by its Kind, an offset is only passed on, and only brackets have Kids.
func TestMixedTrees(t *testing.T) {
	next := mixed()
	for range 80000 {
		l := drawn(5, next)
		check(t, l, next(len(l)+2)-1, next(99)-50)
	}
	for range 20000 {
		l := read(t, grown([]string{"C", "L", "X", "B"}[next(4)], 9, next))
		odd(l, next)
		check(t, l, 0, -7)
	}
}

// odd gives the trees other offsets, and Kids and Texts to those of which these are ignored.
func odd(l []api.Tree, next func(n int) int) {
	for i := range l {
		k := &l[i]
		odd(k.Kids, next)
		k.Tok.At, k.End = next(99)-50, next(99)-50
		switch k.Tok.Kind {
		case 97:
			k.Tok.Text = []string{"a", "b", "", "1x", "(", "a b", "abcdefghijklmnopq"}[next(7)]
			k.Kids = drawn(2, next)
		case '(', '[', '{':
			k.Tok.Text = []string{"", "a"}[next(2)]
		default:
			k.Tok.Text, k.Kids = "xyz", drawn(2, next)
		}
	}
}

func TestEachKindOfToken(t *testing.T) {
	for i := range 256 {
		k := api.Tree{Tok: api.Tok{Kind: byte(i), Text: "a", At: 3}, Kids: read(t, "a"), End: 9}
		for _, line := range []string{"", "a", "{a}", "(a)", "[]", ",a", ":{}", "=a"} {
			rest := read(t, line)
			l := append([]api.Tree{k}, rest...)
			check(t, l, 0, 5)
			for _, b := range "({[" {
				in := api.Tree{Tok: api.Tok{Kind: byte(b), At: 2}, Kids: l, End: 8}
				check(t, []api.Tree{in}, 0, 5)
				check(t, []api.Tree{{Tok: api.Tok{Kind: '+'}}, in}, 0, 5)
				in.Kids = append(slices.Clone(rest), k)
				check(t, []api.Tree{in}, 0, 5)
				check(t, []api.Tree{{Tok: api.Tok{Kind: '#'}}, in}, 0, 5)
			}
		}
	}
}

func TestLongLists(t *testing.T) {
	const n = 1 << 14
	long := func(before, s, after string) {
		line := before + s + strings.Repeat(","+s, n) + after
		l := read(t, line)
		check(t, l, 0, len(line))
		check(t, l[:1], 0, 0)
		bad := strings.Replace(line, after, ","+after, 1)
		check(t, read(t, bad), 0, len(bad))
	}
	long("{", "a", "}")
	long("(", "a", ")")
	long("[", "p:{}", "]")
	long("+(", "a", ")")
	long("[", "f=x", "|r]")
}

// P10.2: Words.

func TestWords(t *testing.T) {
	for _, c := range []struct {
		line string
		want []api.Word
		at   int
	}{
		{"{a}", []api.Word{{Text: "a", At: 1}}, 0},
		{"{ b, a,b }", []api.Word{{Text: "b", At: 2}, {Text: "a", At: 5}, {Text: "b", At: 7}}, 0},
		{"{a} {b}", []api.Word{{Text: "a", At: 1}}, 0},
		{"{}", nil, 1},
		{"{ }", nil, 2},
		{"{,}", nil, 1},
		{"{a,}", nil, 3},
		{"{a b}", nil, 3},
		{"{a,#b}", nil, 3},
		{"{a,{b}}", nil, 3},
		{"{a|b}", nil, 2},
		{"{|a}", nil, 1},
		{"{|}", nil, 1},
		{"a", nil, 0},
		{"(a)", nil, 0},
		{"[a]", nil, 0},
		{"#{a}", nil, 0},
		{"", nil, 55},
	} {
		got, f := term.Words(read(t, c.line), 0, 55)
		if c.want == nil {
			if got != nil || f != (api.Fault{Class: api.Form, At: c.at}) {
				t.Errorf("Words of %q are %v, %v", c.line, got, f)
			}
		} else if !slices.Equal(got, c.want) || f != (api.Fault{}) {
			t.Errorf("Words of %q are %v, %v", c.line, got, f)
		}
	}
}

// P10.3: Text, Same.

func TestText(t *testing.T) {
	a, b := api.Node{Kind: api.NodeVar, Text: "a"}, api.Node{Kind: api.NodePoint, Text: "b"}
	two := []api.Node{a, b}
	names := []api.Word{{Text: "p", At: 3}, {Text: "q"}}
	for _, c := range []struct {
		n    api.Node
		want string
	}{
		{api.Node{}, ""},
		{api.Node{Kind: -1, Text: "a", Names: names, Kids: two}, ""},
		{api.Node{Kind: 12, Text: "a", Names: names, Kids: two}, ""},
		{api.Node{Kind: math.MaxInt, Text: "a"}, ""},
		{api.Node{Text: "a"}, ""},
		{api.Node{Kind: api.NodeVar}, ""},
		{api.Node{Kind: api.NodeVar, Text: "1 ("}, "1 ("},
		{api.Node{Kind: api.NodeConst}, "#"},
		{api.Node{Kind: api.NodeConst, Kids: two}, "#a"},
		{api.Node{Kind: api.NodeConst, Kids: []api.Node{{Kind: 99, Text: "a"}, b}}, "#"},
		{api.Node{Kind: api.NodeField}, "="},
		{api.Node{Kind: api.NodeField, Text: "f"}, "f="},
		{api.Node{Kind: api.NodeField, Text: "f", Kids: two}, "f=a"},
		{api.Node{Kind: api.NodeField, Text: "f", Kids: []api.Node{{}, b}}, "f="},
		{api.Node{Kind: api.NodeTuple}, "()"},
		{api.Node{Kind: api.NodeTuple, Kids: two}, "(a,b)"},
		{api.Node{Kind: api.NodeTuple, Kids: []api.Node{{}, a, {}}}, "(,a,)"},
		{api.Node{Kind: api.NodeGrid}, "[]"},
		{api.Node{Kind: api.NodeGrid, Kids: two}, "[a,b]"},
		{api.Node{Kind: api.NodeJoin}, "+()"},
		{api.Node{Kind: api.NodeJoin, Kids: two}, "+(a,b)"},
		{api.Node{Kind: api.NodeMeet}, "&()"},
		{api.Node{Kind: api.NodeMeet, Kids: two}, "&(a,b)"},
		{api.Node{Kind: api.NodeSet}, "{}"},
		{api.Node{Kind: api.NodeSet, Names: names}, "{p,q}"},
		{api.Node{Kind: api.NodeSet, Names: []api.Word{{}, {}}}, "{,}"},
		{api.Node{Kind: api.NodeRule}, ":{}"},
		{api.Node{Kind: api.NodeRule, Text: "o", Names: names}, "o:{p,q}"},
		{api.Node{Kind: api.NodeRow}, "[]"},
		{api.Node{Kind: api.NodeRow, Kids: two}, "[a,b]"},
		{api.Node{Kind: api.NodeRow, Names: names}, "[|p,q]"},
		{api.Node{Kind: api.NodeRow, Names: names[:1], Kids: two}, "[a,b|p]"},
		{api.Node{Kind: api.NodeRow, Names: []api.Word{{}}, Kids: []api.Node{{}}}, "[|]"},
	} {
		if got := term.Text(c.n); got != c.want {
			t.Errorf("Text(%v) = %q, want %q", c.n, got, c.want)
		}
		// What no parsed node of the kind has is ignored.
		n := c.n
		if n.Kind != api.NodeVar && n.Kind != api.NodePoint && n.Kind != api.NodeRule && n.Kind != api.NodeField {
			n.Text = "odd"
		}
		if n.Kind != api.NodeSet && n.Kind != api.NodeRule && n.Kind != api.NodeRow {
			n.Names = names
		}
		if n.Kind == api.NodeVar || n.Kind == api.NodePoint || n.Kind == api.NodeSet || n.Kind == api.NodeRule {
			n.Kids = two
		}
		if got := term.Text(n); got != c.want {
			t.Errorf("Text(%v) = %q, want %q", n, got, c.want)
		}
	}
}

func TestSame(t *testing.T) {
	v := func(s string) api.Node { return api.Node{Kind: api.NodeVar, Text: s} }
	w := func(l ...string) (words []api.Word) {
		for _, s := range l {
			words = append(words, api.Word{Text: s})
		}
		return words
	}
	// No two of these are the same.
	nodes := []api.Node{
		{}, {Kind: 1}, {Kind: 2}, {Kind: 12}, {Kind: -1}, {Text: "a"}, v("a"), v("b"), {Kind: 2, Text: "a"},
		{Names: w("a")}, {Names: w("b")}, {Names: w("")}, {Names: w("a", "b")}, {Names: w("b", "a")}, {Names: w("a", "a")}, {Names: w("a", "b", "c")},
		{Kids: []api.Node{{}}}, {Kids: []api.Node{{}, {}}}, {Kids: []api.Node{v("a")}}, {Kids: []api.Node{v("b")}}, {Kids: []api.Node{v("a"), v("b")}}, {Kids: []api.Node{v("b"), v("a")}},
		{Kids: []api.Node{{Kids: []api.Node{v("a")}}}}, {Kids: []api.Node{{Names: w("a")}}}, {Kids: []api.Node{{Kids: []api.Node{v("b")}}}}, {Kids: []api.Node{{Kids: []api.Node{v("a"), v("a")}}}},
		{Names: w("a"), Kids: []api.Node{v("a")}}, {Names: w("a"), Kids: []api.Node{v("b")}}, {Names: w("b"), Kids: []api.Node{v("a")}}, {Text: "a", Names: w("a")},
	}
	next := mixed()
	for i, a := range nodes {
		for j, b := range nodes {
			if got := term.Same(moved(a, next), moved(b, next)); got != (i == j) {
				t.Errorf("Same(%v, %v) = %v", a, b, got)
			}
		}
	}
	if !term.Same(api.Node{Names: []api.Word{}, Kids: []api.Node{}}, api.Node{}) || !term.Same(api.Node{}, api.Node{Names: []api.Word{}, Kids: []api.Node{}}) {
		t.Error("empty lists are not the same as none")
	}
}

// moved returns a copy of n with other offsets.
func moved(n api.Node, next func(n int) int) api.Node {
	n.At = next(99) - 50
	n.Names, n.Kids = slices.Clone(n.Names), slices.Clone(n.Kids)
	for i := range n.Names {
		n.Names[i].At = next(99) - 50
	}
	for i, k := range n.Kids {
		n.Kids[i] = moved(k, next)
	}
	return n
}

func TestSameOfParsedTerms(t *testing.T) {
	next := mixed()
	for range 20000 {
		s, u := grown("L", 5, next), grown("L", 5, next)
		a, b := parsed(t, term.Label, s), parsed(t, term.Label, u)
		if got := term.Same(a, b); got != (s == u) {
			t.Fatalf("Same of %q and %q is %v", s, u, got)
		}
		if !term.Same(a, parsed(t, term.Label, " "+strings.ReplaceAll(s, ",", " , "))) {
			t.Fatalf("%q is not the same with blanks", s)
		}
	}
}

// P10.4: IsConst, IsLabel, IsRow.

// kinds has the kinds of the nodes of each symbol.
var kinds = map[string][]int{"const": {2, 3, 4, 5}, "rule": {6}, "label": {1, 7, 8, 9}, "atom": {1, 7}, "row": {1, 10}, "field": {11}}

// needs has for each kind whether it has a Text, at most how many Names, at least and at most how many Kids, and what these are.
var needs = map[int]struct {
	text               bool
	names, least, most int
	kid                string
}{
	1:  {true, 0, 0, 0, ""},
	2:  {true, 0, 0, 0, ""},
	3:  {false, 99, 0, 0, ""},
	4:  {false, 0, 1, 99, "const"},
	5:  {false, 0, 0, 99, "rule"},
	6:  {true, 99, 0, 0, ""},
	7:  {false, 0, 1, 1, "const"},
	8:  {false, 0, 1, 99, "label"},
	9:  {false, 0, 1, 99, "label"},
	10: {false, 1, 0, 99, "field"},
	11: {true, 0, 1, 1, "atom"},
}

// couldBe reports whether n has all that a node of the symbol has, and nothing else.
func couldBe(symbol string, n api.Node) bool {
	row, is := needs[n.Kind]
	if !is || !slices.Contains(kinds[symbol], n.Kind) || row.text != (n.Text != "") || row.text && !isName(n.Text) {
		return false
	}
	if len(n.Names) > row.names || len(n.Kids) < row.least || len(n.Kids) > row.most {
		return false
	}
	for _, w := range n.Names {
		if !isName(w.Text) {
			return false
		}
	}
	for _, k := range n.Kids {
		if !couldBe(row.kid, k) {
			return false
		}
	}
	return true
}

// isName reports whether s is a name as chapter 2 defines it.
func isName(s string) bool {
	return len(s) >= 1 && len(s) <= 16 && s[0] >= 'a' && s[0] <= 'z' && strings.Trim(s, "abcdefghijklmnopqrstuvwxyz0123456789_") == ""
}

// checkIs compares IsConst, IsLabel and IsRow with the model, and returns whether one of them holds.
func checkIs(t *testing.T, n api.Node) bool {
	t.Helper()
	c, l, r := term.IsConst(n), term.IsLabel(n), term.IsRow(n)
	if c != couldBe("const", n) || l != couldBe("label", n) || r != couldBe("row", n) {
		t.Fatalf("%v is a constant: %v, a label: %v, a row: %v", n, c, l, r)
	}
	return c || l || r
}

func TestIsOfSmallNodes(t *testing.T) {
	texts := []string{"", "a", "1", "abcdefghijklmnop", "abcdefghijklmnopq", "A", "a b", "a\x00"}
	names := [][]api.Word{nil, {}, {{Text: "a", At: -3}}, {{}}, {{Text: "1"}}, {{Text: "a"}, {Text: "a"}}, {{Text: "a"}, {Text: "#"}}, {{Text: ""}, {Text: "b"}}}
	var leaves, small []api.Node
	for kind := -1; kind <= 13; kind++ {
		for _, s := range texts {
			for _, l := range names {
				leaves = append(leaves, api.Node{Kind: kind, At: kind - 5, Text: s, Names: l})
			}
		}
		small = append(small, api.Node{Kind: kind}, api.Node{Kind: kind, Text: "a"}, api.Node{Kind: kind, Text: "?"}, api.Node{Kind: kind, Names: names[2]}, api.Node{Kind: kind, Text: "a", Names: names[2]})
	}
	found := 0
	for _, n := range leaves {
		if checkIs(t, n) {
			found++
		}
		for _, k := range small {
			n.Kids = []api.Node{k}
			if checkIs(t, n) {
				found++
			}
			for kind := 1; kind <= 11; kind++ {
				n.Kids = []api.Node{{Kind: kind, Kids: []api.Node{k}}}
				checkIs(t, n)
				n.Kids[0].Text = "a"
				checkIs(t, n)
			}
		}
	}
	if found < 40 {
		t.Errorf("only %d nodes could be parsed", found)
	}
	for _, n := range leaves {
		n.Kids = []api.Node{}
		checkIs(t, n)
		if len(n.Text) < 2 && len(n.Names) < 2 {
			for _, a := range small {
				for _, b := range small {
					n.Kids = []api.Node{a, b}
					checkIs(t, n)
				}
			}
		}
	}
}

// What is right in one place need not be so in another one.
func TestIsOfNodesInOtherPlaces(t *testing.T) {
	var nodes []api.Node
	for _, s := range []string{"a", "{a}", "(a)", "[p:{q}]", "[]"} {
		nodes = append(nodes, parsed(t, term.Const, s))
	}
	for _, s := range []string{"x", "#a", "#(a,{b})", "+(x)", "&(x,#a)"} {
		nodes = append(nodes, parsed(t, term.Label, s))
	}
	for _, s := range []string{"[]", "[|r]", "[f=x]", "[f=#a,g=y|r]"} {
		nodes = append(nodes, parsed(t, term.Row, s))
	}
	nodes = append(nodes, nodes[3].Kids[0], nodes[12].Kids[0])
	for _, a := range nodes {
		checkIs(t, a)
		for kind := range 13 {
			for _, s := range []string{"", "a"} {
				b := api.Node{Kind: kind, Text: s, Kids: []api.Node{a}}
				checkIs(t, b)
				for outer := range 13 {
					checkIs(t, api.Node{Kind: outer, Kids: []api.Node{b}})
					checkIs(t, api.Node{Kind: outer, Text: "a", Kids: []api.Node{b}})
				}
			}
		}
	}
}

func TestIsOfParsedNodes(t *testing.T) {
	next := mixed()
	for range 20000 {
		symbol := next(3)
		n := parsed(t, []parser{term.Const, term.Label, term.Row}[symbol], grown([]string{"C", "L", "X"}[symbol], 6, next))
		if !checkIs(t, n) {
			t.Fatalf("%v could not be parsed", n)
		}
		mar(&n, next)
		checkIs(t, n)
	}
}

// mar changes something in n or below.
func mar(n *api.Node, next func(n int) int) {
	for len(n.Kids) > 0 && next(3) > 0 {
		n = &n.Kids[next(len(n.Kids))]
	}
	switch next(6) {
	case 0:
		n.Kind = next(14) - 1
	case 1:
		n.Text = []string{"", "a", "1", "#"}[next(4)]
	case 2:
		n.Names = append(n.Names, api.Word{Text: []string{"", "a", "1"}[next(3)]})
	case 3:
		n.Names = n.Names[:len(n.Names)/2]
	case 4:
		n.Kids = append(n.Kids, api.Node{Kind: next(12), Text: []string{"", "a"}[next(2)]})
	case 5:
		n.Kids = n.Kids[:len(n.Kids)/2]
	}
}

// P10.5: the laws.

func TestTextIsParsedAgain(t *testing.T) {
	next := mixed()
	again := 0
	for range 60000 {
		symbol := next(3)
		n := parsed(t, []parser{term.Const, term.Label, term.Row}[symbol], grown([]string{"C", "L", "X"}[symbol], 6, next))
		for range next(3) {
			mar(&n, next)
		}
		for i, f := range []parser{term.Const, term.Label, term.Row} {
			if is := []func(n api.Node) bool{term.IsConst, term.IsLabel, term.IsRow}[i]; is(n) {
				again++
				if m := parsed(t, f, term.Text(n)); !term.Same(m, n) || term.Text(m) != term.Text(n) {
					t.Fatalf("%v is parsed again as %v", n, m)
				}
			}
		}
	}
	if again < 30000 {
		t.Errorf("only %d nodes were parsed again", again)
	}
}

// More levels than a line allows are promised too, up to the bound of the document.
func TestDeepTerms(t *testing.T) {
	for _, n := range []int{24, 25, 100, deepest - 1} {
		deepConst(t, n)
		deepLabel(t, n)
	}
}

// deepConst checks a tuple of n levels.
func deepConst(t *testing.T, n int) {
	t.Helper()
	in, out := read(t, "a"), read(t, ",")
	for i := range n {
		in = []api.Tree{{Tok: api.Tok{Kind: '(', Text: "(", At: n - i}, Kids: in, End: n + i}}
		out = []api.Tree{{Tok: api.Tok{Kind: '(', Text: "("}, Kids: out}}
	}
	node, next, f := term.Const(in, 0, 1)
	if f != (api.Fault{}) || next != 1 || !term.IsConst(node) || !term.Same(node, node) {
		t.Errorf("%d levels give %v", n, f)
	}
	if s := term.Text(node); s != strings.Repeat("(", n)+"a"+strings.Repeat(")", n) {
		t.Errorf("%d levels have %d bytes", n, len(s))
	}
	if _, next, f := term.Const(out, 0, 1); next != 0 || f != (api.Fault{Class: 2}) {
		t.Errorf("%d levels give %v", n, f)
	}
}

// deepLabel checks joins and meets of n levels.
func deepLabel(t *testing.T, n int) {
	t.Helper()
	in, out := read(t, "#{}"), read(t, "+(a)a")
	for i := range n {
		sign := api.Tree{Tok: api.Tok{Kind: "+&"[i%2]}}
		in = []api.Tree{sign, {Tok: api.Tok{Kind: '(', At: n - i}, Kids: in, End: n + i}}
		out = []api.Tree{sign, {Tok: api.Tok{Kind: '('}, Kids: out}}
	}
	node, next, f := term.Label(in, 0, 1)
	if f != (api.Fault{}) || next != 2 || !term.IsLabel(node) || !term.Same(node, node) {
		t.Errorf("%d levels give %v", n, f)
	}
	if s := term.Text(node); len(s) != 3*n+3 {
		t.Errorf("%d levels have %d bytes", n, len(s))
	}
	if _, next, f := term.Label(out, 0, 1); next != 0 || f != (api.Fault{Class: 2, At: 4}) {
		t.Errorf("%d levels give %v", n, f)
	}
}

// Memory.

// span is a piece of memory.
type span struct{ begin, end uintptr }

// spansOf returns the memory of the lists of n.
func spansOf(n api.Node) []span {
	var l []span
	if cap(n.Names) > 0 {
		begin := uintptr(unsafe.Pointer(unsafe.SliceData(n.Names)))
		l = append(l, span{begin, begin + uintptr(cap(n.Names))*unsafe.Sizeof(api.Word{})})
	}
	if cap(n.Kids) > 0 {
		begin := uintptr(unsafe.Pointer(unsafe.SliceData(n.Kids)))
		l = append(l, span{begin, begin + uintptr(cap(n.Kids))*unsafe.Sizeof(api.Node{})})
	}
	for _, k := range n.Kids {
		l = append(l, spansOf(k)...)
	}
	return l
}

// copied returns trees that share no memory with those of l.
func copied(l []api.Tree) []api.Tree {
	c := slices.Clone(l)
	for i := range c {
		c[i].Kids = copied(c[i].Kids)
	}
	return c
}

func TestResultsShareNoMemory(t *testing.T) {
	for i, line := range []string{"([p:{a,b},q:{a}],({a,b},{a,b}),[],{})", "+(x,&(y,#{a,b}),#[p:{q}],z)", "[f=x,g=#(a,{b,c})|r]"} {
		f := []parser{term.Const, term.Label, term.Row}[i]
		l := read(t, line)
		before := copied(l)
		a, _, _ := f(l, 0, 0)
		b, _, _ := f(l, 0, 0)
		all := append(spansOf(a), spansOf(b)...)
		for i, s := range all {
			for _, u := range all[:i] {
				if s.begin < u.end && u.begin < s.end {
					t.Fatalf("two lists of %q share memory", line)
				}
			}
		}
		if !tree.Same(l, before) {
			t.Errorf("the trees of %q have changed", line)
		}
		kept := moved(a, func(n int) int { return 0 })
		clear(l[0].Kids)
		clear(l)
		if text := term.Text(a); text != line || !term.Same(a, kept) {
			t.Errorf("%q has become %q", line, text)
		}
	}
	l := read(t, "{a,b,c}")
	v, _ := term.Words(l, 0, 0)
	w, _ := term.Words(l, 0, 0)
	clear(v[:cap(v)])
	clear(l[0].Kids)
	if !slices.Equal(w, []api.Word{{Text: "a", At: 1}, {Text: "b", At: 3}, {Text: "c", At: 5}}) {
		t.Errorf("the words have become %v", w)
	}
}

// What lies beyond the length of a list is neither read nor written, and no argument changes.
func TestArgumentsAreOnlyRead(t *testing.T) {
	l := read(t, "+(a,b,c)[f=x,g=y|r]{a,b}")
	l[1].Kids = l[1].Kids[:3]
	l[2].Kids = l[2].Kids[:3]
	l[3].Kids = l[3].Kids[:1]
	before := copied(l)
	for n := range len(l) + 1 {
		for at := range len(l) + 1 {
			check(t, l[:n], at, 99)
		}
	}
	if !tree.Same(l, before) {
		t.Error("the trees have changed")
	}
	n := parsed(t, term.Row, "[f=x,g=#{a,b}|r]")
	n.Kids = n.Kids[:1]
	beyond := moved(n.Kids[:2][1], func(n int) int { return 0 })
	if s := term.Text(n); s != "[f=x|r]" || !term.IsRow(n) || !term.Same(n, parsed(t, term.Row, s)) {
		t.Errorf("the shortened row is %q", s)
	}
	if !term.Same(n.Kids[:2][1], beyond) {
		t.Error("the node has changed")
	}
}
