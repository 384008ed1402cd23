package command_test

import (
	"math"
	"reflect"
	"slices"
	"strconv"
	"strings"
	"testing"
	"unsafe"

	"clearance/api"
	"clearance/command"
	"clearance/lex"
	"clearance/term"
	"clearance/tree"
)

// deepest is the greatest number of levels for which the document promises anything.
const deepest = 1 << 16

// The model: what may follow a keyword are the texts that some symbols of a grammar become, and a line is right as long as one of these texts begins like it.

// keywords has the keywords by their numbers, of which the first one is 1, and symbols the symbols of their parts.
var (
	keywords = strings.Fields("chain power product grid table label row leq roweq lacks push pop check core why")
	symbols  = map[string]string{
		"chain": "aB", "power": "aB", "product": "aB", "grid": "aBP", "table": "aBP", "label": "aB", "row": "aB",
		"leq": "aLL", "roweq": "aXX", "lacks": "aa", "push": "", "pop": "", "check": "", "core": "", "why": "a",
	}
)

// grammar has for each symbol (a capital letter) what it may become.
var grammar = map[byte][]string{
	'B': {"{aM}"},
	'M': {"", ",aM"},
	'P': {"{Q}"},
	'Q': {"", "a<aO"},
	'O': {"", ",a<aO"},
	'L': {"a", "#C", "+(LK)", "&(LK)"},
	'K': {"", ",LK"},
	'X': {"a", "[F]"},
	'F': {"", "|a", "a=DE"},
	'E': {"", "|a", ",a=DE"},
	'D': {"a", "#C"},
	'C': {"a", "{S}", "(CT)", "[G]"},
	'S': {"", "aM"},
	'T': {"", ",CT"},
	'G': {"", "a:{S}H"},
	'H': {"", ",a:{S}H"},
}

// after returns what remains of the texts that s becomes and that begin with the token.
func after(s string, token byte) []string {
	switch {
	case s == "":
		return nil
	case grammar[s[0]] != nil:
		var l []string
		for _, r := range grammar[s[0]] {
			l = append(l, after(r+s[1:], token)...)
		}
		return l
	case s[0] == token:
		return []string{s[1:]}
	}
	return nil
}

// model returns the command of the line and its Text, or the fault.
func model(line string) (api.Cmd, string, api.Fault) {
	toks, f := lex.Read(line)
	if f != (api.Fault{}) {
		return api.Cmd{}, "", f
	}
	trees, f := tree.Read(toks)
	if f != (api.Fault{}) || len(toks) == 0 {
		return api.Cmd{}, "", f
	}
	if !slices.Contains(keywords, toks[0].Text) {
		return api.Cmd{}, "", api.Fault{Class: 2, At: toks[0].At}
	}
	remain := []string{symbols[toks[0].Text]}
	for _, k := range toks[1:] {
		// Only one text of the grammar begins like the line.
		if remain = after(remain[0], k.Kind); len(remain) == 0 {
			return api.Cmd{}, "", api.Fault{Class: 2, At: k.At}
		}
	}
	if remain[0] != "" {
		return api.Cmd{}, "", api.Fault{Class: 2, At: len(line)}
	}
	c, text := built(trees)
	return c, text, api.Fault{}
}

// built returns the command of the trees, which are right, and its Text.
func built(trees []api.Tree) (api.Cmd, string) {
	keyword := trees[0].Tok
	c := api.Cmd{Op: 1 + slices.Index(keywords, keyword.Text), At: keyword.At}
	text, begin := keyword.Text, 1
	for i, symbol := range symbols[keyword.Text] {
		end, n := begin+1, api.Node{}
		words := wordsOf(trees[begin : begin+1])
		switch symbol {
		case 'a':
			if i == 0 {
				c.Name = words[0]
			} else {
				c.Names = words
			}
		case 'B':
			c.Names = words
		case 'P':
			c.PairsAt = trees[begin].Tok.At
			for len(words) > 0 {
				c.Pairs = append(c.Pairs, [2]api.Word(words))
				words = words[2:]
			}
		case 'L':
			n, end, _ = term.Label(trees, begin, 0)
		case 'X':
			n, end, _ = term.Row(trees, begin, 0)
		}
		if i == 1 {
			c.Left = n
		} else if i == 2 {
			c.Right = n
		}
		text += " " + lex.Text(tree.Flat(trees[begin:end]))
		begin = end
	}
	return c, text
}

// wordsOf returns all names in the trees.
func wordsOf(l []api.Tree) []api.Word {
	var words []api.Word
	for _, k := range tree.Flat(l) {
		if k.Kind == 97 {
			words = append(words, api.Word{Text: k.Text, At: k.At})
		}
	}
	return words
}

// exact reports whether a and b are equal with their offsets; an empty list is like none.
func exact(a, b api.Cmd) bool {
	return a.Op == b.Op && a.At == b.At && a.Name == b.Name && slices.Equal(a.Names, b.Names) &&
		slices.Equal(a.Pairs, b.Pairs) && a.PairsAt == b.PairsAt && exactNode(a.Left, b.Left) && exactNode(a.Right, b.Right)
}

// exactNode is exact for nodes.
func exactNode(a, b api.Node) bool {
	return a.Kind == b.Kind && a.At == b.At && a.Text == b.Text && slices.Equal(a.Names, b.Names) && slices.EqualFunc(a.Kids, b.Kids, exactNode)
}

// check compares Read with the model, and returns whether the line is right; if so, the command obeys the laws.
func check(t *testing.T, line string) bool {
	t.Helper()
	c, f := command.Read(line)
	want, text, fault := model(line)
	if fault != (api.Fault{}) {
		if !reflect.DeepEqual(c, api.Cmd{}) || f != fault {
			t.Fatalf("%q gives %v, %v, want the fault %v", line, c, f, fault)
		}
		return false
	}
	if !exact(c, want) || f != (api.Fault{}) {
		t.Fatalf("%q gives %v, %v, want %v", line, c, f, want)
	}
	if got := command.Text(c); got != text || len(text) > 3*len(line) {
		t.Fatalf("%q has the Text %q, want %q", line, got, text)
	}
	if !command.Right(c) {
		t.Fatalf("%q could not be parsed", line)
	}
	again, f := command.Read(text)
	if f != (api.Fault{}) || !command.Same(again, c) || command.Text(again) != text {
		t.Fatalf("%q is parsed again as %v, %v", text, again, f)
	}
	return true
}

// parsed returns the command of a right line.
func parsed(t *testing.T, line string) api.Cmd {
	t.Helper()
	c, f := command.Read(line)
	if f != (api.Fault{}) {
		t.Fatalf("%q gives %v", line, f)
	}
	return c
}

// mixed returns a function that returns numbers below its argument, in an order that is fixed but mixed.
func mixed() func(n int) int {
	x := uint64(1)
	return func(n int) int {
		x = x*6364136223846793005 + 1442695040888963407
		return int(x>>33) % n
	}
}

// grown returns tokens that the symbols become, of few levels, with blanks around them.
func grown(s string, n int, next func(n int) int) string {
	var b strings.Builder
	for i := range len(s) {
		r := grammar[s[i]]
		switch {
		case s[i] == 'a':
			b.WriteString([]string{"a", "b", "x", "chain", "why", "a_1", "abcdefghijklmnop"}[next(7)])
			b.WriteString([]string{" ", "\t", "  "}[next(3)])
		case r == nil:
			b.WriteString(s[i:i+1] + []string{"", "", " ", "\t "}[next(4)])
		default:
			// The first choice ends soonest.
			k := 0
			if n > 0 {
				k = next(len(r))
			}
			b.WriteString(grown(r[k], n-1, next))
		}
	}
	return b.String()
}

// drawn returns a right line.
func drawn(next func(n int) int) string {
	k := keywords[next(len(keywords))]
	ends := []string{"", "", " ", "--", " -- }", "\t--a"}
	return []string{"", "", " ", "\t "}[next(4)] + k + " " + grown(symbols[k], 2+next(7), next) + ends[next(len(ends))]
}

// marred returns s with some of its bytes replaced, removed or added.
func marred(s string, next func(n int) int) string {
	tokens := []string{"a", " a ", ",", ":", "=", "|", "#", "+", "&", "<", "(", ")", "{", "}", "[", "]", " ", "{}", "[]", "--", "", "", "a<b"}
	for range 1 + next(2) {
		i := next(len(s) + 1)
		j := min(i+next(3), len(s))
		s = s[:i] + tokens[next(len(tokens))] + s[j:]
	}
	return s
}

// each calls f with every line that consists of the keyword and up to n of the tokens, if their brackets fit together.
func each(keyword, tokens string, n int, f func(line string)) {
	var longer func(line, open string, n int)
	longer = func(line, open string, n int) {
		if open == "" {
			f(line)
		}
		for i := range len(tokens) {
			inner := open
			if c := strings.IndexByte("({[", tokens[i]); c >= 0 {
				inner = ")}]"[c:c+1] + open
			} else if strings.IndexByte(")}]", tokens[i]) >= 0 {
				if !strings.HasPrefix(open, tokens[i:i+1]) {
					continue
				}
				inner = open[1:]
			}
			if len(inner) < n {
				longer(line+" "+tokens[i:i+1], inner, n-1)
			}
		}
	}
	longer(keyword, "", n)
}

// v returns the NodeVar of a name at this place.
func v(s string, at int) api.Node {
	return api.Node{Kind: api.NodeVar, Text: s, At: at}
}

// P12.1: Read.

func TestExamples(t *testing.T) {
	c := parsed(t, "table  t {a, b}{a<b}")
	want := api.Cmd{
		Op: api.OpTable, Name: api.Word{Text: "t", At: 7},
		Names: []api.Word{{Text: "a", At: 10}, {Text: "b", At: 13}},
		Pairs: [][2]api.Word{{{Text: "a", At: 16}, {Text: "b", At: 18}}}, PairsAt: 15,
	}
	if !exact(c, want) || command.Text(c) != "table t {a,b} {a<b}" {
		t.Errorf("the example is %v with the Text %q", c, command.Text(c))
	}
}

func TestEachCommand(t *testing.T) {
	k := api.Word{Text: "k", At: 5}
	for line, want := range map[string]api.Cmd{
		"chain k{x}":    {Op: 1, At: 0, Name: api.Word{Text: "k", At: 6}, Names: []api.Word{{Text: "x", At: 8}}},
		"power k{x,x}":  {Op: 2, Name: api.Word{Text: "k", At: 6}, Names: []api.Word{{Text: "x", At: 8}, {Text: "x", At: 10}}},
		"product p{k}":  {Op: 3, Name: api.Word{Text: "p", At: 8}, Names: []api.Word{{Text: "k", At: 10}}},
		"grid k{p}{}":   {Op: 4, Name: k, Names: []api.Word{{Text: "p", At: 7}}, PairsAt: 9},
		" table k{p}{}": {Op: 5, At: 1, Name: api.Word{Text: "k", At: 7}, Names: []api.Word{{Text: "p", At: 9}}, PairsAt: 11},
		"grid k{p}{q<p , p<p}": {Op: 4, Name: k, Names: []api.Word{{Text: "p", At: 7}}, PairsAt: 9, Pairs: [][2]api.Word{
			{{Text: "q", At: 10}, {Text: "p", At: 12}}, {{Text: "p", At: 16}, {Text: "p", At: 18}},
		}},
		"label k{x}":      {Op: 6, Name: api.Word{Text: "k", At: 6}, Names: []api.Word{{Text: "x", At: 8}}},
		"\trow\tk {x} ":   {Op: 7, At: 1, Name: k, Names: []api.Word{{Text: "x", At: 8}}},
		"leq k x y":       {Op: 8, Name: api.Word{Text: "k", At: 4}, Left: v("x", 6), Right: v("y", 8)},
		"leq k#x y":       {Op: 8, Name: api.Word{Text: "k", At: 4}, Left: api.Node{Kind: api.NodeConst, At: 5, Kids: []api.Node{{Kind: api.NodePoint, Text: "x", At: 6}}}, Right: v("y", 8)},
		"leq k y+(x)":     {Op: 8, Name: api.Word{Text: "k", At: 4}, Left: v("y", 6), Right: api.Node{Kind: api.NodeJoin, At: 7, Kids: []api.Node{v("x", 9)}}},
		"roweq k r s":     {Op: 9, Name: api.Word{Text: "k", At: 6}, Left: v("r", 8), Right: v("s", 10)},
		"roweq k[][f=x]":  {Op: 9, Name: api.Word{Text: "k", At: 6}, Left: api.Node{Kind: api.NodeRow, At: 7}, Right: api.Node{Kind: api.NodeRow, At: 9, Kids: []api.Node{{Kind: api.NodeField, Text: "f", At: 10, Kids: []api.Node{v("x", 12)}}}}},
		"roweq k r[|s]":   {Op: 9, Name: api.Word{Text: "k", At: 6}, Left: v("r", 8), Right: api.Node{Kind: api.NodeRow, At: 9, Names: []api.Word{{Text: "s", At: 11}}}},
		"lacks r f":       {Op: 10, Name: api.Word{Text: "r", At: 6}, Names: []api.Word{{Text: "f", At: 8}}},
		"  push":          {Op: 11, At: 2},
		"pop --x":         {Op: 12},
		"check":           {Op: 13},
		"\t\tcore":        {Op: 14, At: 2},
		" why k":          {Op: 15, At: 1, Name: k},
		"why why":         {Op: 15, Name: api.Word{Text: "why", At: 4}},
		"row row{row}":    {Op: 7, Name: api.Word{Text: "row", At: 4}, Names: []api.Word{{Text: "row", At: 8}}},
		"lacks pop core":  {Op: 10, Name: api.Word{Text: "pop", At: 6}, Names: []api.Word{{Text: "core", At: 10}}},
		"leq leq leq leq": {Op: 8, Name: api.Word{Text: "leq", At: 4}, Left: v("leq", 8), Right: v("leq", 12)},
		"leq k&(x,y)#[]":  {Op: 8, Name: api.Word{Text: "k", At: 4}, Left: api.Node{Kind: api.NodeMeet, At: 5, Kids: []api.Node{v("x", 7), v("y", 9)}}, Right: api.Node{Kind: api.NodeConst, At: 11, Kids: []api.Node{{Kind: api.NodeGrid, At: 12}}}},
		"leq l+(x,+(y))y": {Op: 8, Name: api.Word{Text: "l", At: 4}, Left: api.Node{Kind: api.NodeJoin, At: 5, Kids: []api.Node{v("x", 7), {Kind: api.NodeJoin, At: 9, Kids: []api.Node{v("y", 11)}}}}, Right: v("y", 14)},
	} {
		if c := parsed(t, line); !exact(c, want) {
			t.Errorf("%q is %v, want %v", line, c, want)
		}
		check(t, line)
	}
}

func TestLinesWithoutTokens(t *testing.T) {
	for _, line := range []string{"", " ", "\t", " \t  \t", "--", "-- pop", "  --pop }", "\t---", "-- \x00\xff$", "--\n"} {
		c, f := command.Read(line)
		if !reflect.DeepEqual(c, api.Cmd{}) || f != (api.Fault{}) || command.Text(c) != "" || !command.Right(c) {
			t.Errorf("%q is %v, %v", line, c, f)
		}
		check(t, line)
	}
}

func TestFaults(t *testing.T) {
	for _, c := range []struct {
		line string
		at   int
	}{
		{"a", 0}, {" chains", 1}, {"chai n {a}", 0}, {"pushpop", 0}, {"blank", 0}, {",", 0}, {"{pop}", 0}, {"  (a) pop", 2}, {"# pop", 0}, {"<", 0}, {"|a", 0},
		{"chain", 5}, {"chain ", 6}, {"chain--", 7}, {"chain {a}", 6}, {"chain (k) {a}", 6}, {"chain #k {a}", 6}, {"chain k", 7}, {"chain k a", 8}, {"chain k (a)", 8}, {"chain k {}", 9}, {"chain k { }", 10},
		{"chain k {a,}", 11}, {"chain k {,a}", 9}, {"chain k {a b}", 11}, {"chain k {a,{b}}", 11}, {"chain k {#a}", 9}, {"chain k {a<b}", 10}, {"chain k {a} {}", 12}, {"chain k {a} {a<b}", 12}, {"chain k {a} b", 12}, {"chain k {a},", 11}, {"chain k, {a}", 7},
		{"power", 5}, {"power k", 7}, {"power k {}", 9}, {"power k {a} pop", 12}, {"product p", 9}, {"product p {}", 11}, {"product p {k}{k}", 13},
		{"grid", 4}, {"grid g", 6}, {"grid g {a}", 10}, {"grid g {a} -- {}", 16}, {"grid g {} {}", 8}, {"grid g {a} a", 11}, {"grid g {a} (a<b)", 11}, {"grid g {a} [a<b]", 11}, {"grid g {a} {} {}", 14},
		{"grid g {a} {a}", 13}, {"grid g {a} {a<}", 14}, {"grid g {a} {<a}", 12}, {"grid g {a} {<}", 12}, {"grid g {a} {,}", 12}, {"grid g {a} {a<b,}", 16}, {"grid g {a} {a<b,a}", 17}, {"grid g {a} {a<b,,}", 16}, {"grid g {a} {,a<b}", 12},
		{"grid g {a} {a<b a<b}", 16}, {"grid g {a} {a<b<c}", 15}, {"grid g {a} {a<<b}", 14}, {"grid g {a} {a,b}", 13}, {"grid g {a} {a=b}", 13}, {"grid g {a} {{a<b}}", 12}, {"grid g {a} {a{}b}", 13}, {"grid g {a} {a<{b}}", 14}, {"grid g {a} {#a<b}", 12}, {"grid g {a} {a<#b}", 14}, {"grid g {a} {a<b,{}}", 16}, {"grid g {a} {a<b|c}", 15},
		{"table t {a,b}", 13}, {"table t {a,b} {a<b}a", 19}, {"table t {a<b} {a<b}", 10}, {"table {a} {}", 6},
		{"label k", 7}, {"label k {}", 9}, {"label {x}", 6}, {"label k {x} {y}", 12}, {"row k {x,}", 9}, {"row k [x]", 6}, {"row", 3},
		{"leq", 3}, {"leq k", 5}, {"leq k x", 7}, {"leq k x ", 8}, {"leq k x -- y", 12}, {"leq k x y z", 10}, {"leq k x, y", 7}, {"leq k x < y", 8}, {"leq #k x y", 4}, {"leq k [] y", 6}, {"leq k x []", 8}, {"leq k (x) y", 6}, {"leq k x {y}", 8}, {"leq k # y", 9}, {"leq k x #", 9},
		{"leq k +() y", 8}, {"leq k +(x,) y", 10}, {"leq k +x y", 7}, {"leq k x &(#) ", 11}, {"leq k x #()", 10}, {"leq k #a[] y", 8}, {"leq k #+(a) y", 7}, {"leq k +(x)(y) z", 10}, {"leq k x y|", 9},
		{"roweq", 5}, {"roweq k", 7}, {"roweq k r", 9}, {"roweq k []", 10}, {"roweq k [] [] []", 14}, {"roweq k #a r", 8}, {"roweq k r #a", 10}, {"roweq k +(r) s", 8}, {"roweq k r (s)", 10}, {"roweq k r {}", 10}, {"roweq k [f] r", 10}, {"roweq k r [f=]", 13}, {"roweq k [f=x,] r", 13}, {"roweq k r [|]", 12}, {"roweq k [f=+(x)] r", 11}, {"roweq k r = s", 10},
		{"lacks", 5}, {"lacks r", 7}, {"lacks r f g", 10}, {"lacks r {f}", 8}, {"lacks r #f", 8}, {"lacks [] f", 6}, {"lacks r, f", 7}, {"lacks r f,", 9},
		{"push a", 5}, {"push push", 5}, {"pop ()", 4}, {"pop,", 3}, {"check {check}", 6}, {"core #", 5}, {"core core", 5}, {"check\t, -- a", 6}, {"pop pop", 4}, {"push[a]", 4},
		{"why", 3}, {"why  ", 5}, {"why x y", 6}, {"why #x", 4}, {"why {x}", 4}, {"why x,", 5}, {"why (why)", 4},
	} {
		if got, f := command.Read(c.line); !reflect.DeepEqual(got, api.Cmd{}) || f != (api.Fault{Class: api.Form, At: c.at}) {
			t.Errorf("%q gives %v, %v, want a fault at %d", c.line, got, f, c.at)
		}
		check(t, c.line)
	}
}

// A fault of the tokens precedes one of the brackets, and this one of the parts, wherever they stand.
func TestFaultsOfLowerLayersPrecede(t *testing.T) {
	for line, want := range map[string]api.Fault{
		"nothing ) $":           {Class: api.Lex, At: 10},
		"nothing )":             {Class: api.Form, At: 8},
		"chain ( } k $ --":      {Class: api.Lex, At: 12},
		"chain ( } k":           {Class: api.Form, At: 8},
		"leq k # (":             {Class: api.Form, At: 8},
		"leq k # -":             {Class: api.Lex, At: 8},
		"leq k # x ) y":         {Class: api.Form, At: 10},
		"pop 1x":                {Class: api.Lex, At: 4},
		"pop pop {":             {Class: api.Form, At: 8},
		"pop\n":                 {Class: api.Lex, At: 3},
		"pop Pop":               {Class: api.Lex, At: 4},
		"Pop":                   {Class: api.Lex, At: 0},
		"-pop":                  {Class: api.Lex, At: 0},
		"pop -- -":              {},
		"leq k x y\x00":         {Class: api.Lex, At: 9},
		"grid g {a} {a<b":       {Class: api.Form, At: 11},
		"grid g {a} {a>b}":      {Class: api.Lex, At: 13},
		"grid g {a} {a<b]":      {Class: api.Form, At: 15},
		"chain k {a} -- {":      {},
		"abcdefghijklmnopq":     {Class: api.Lex, At: 0},
		"why abcdefghijklmnopq": {Class: api.Lex, At: 4},
	} {
		if _, f := command.Read(line); f != want {
			t.Errorf("%q gives %v, want %v", line, f, want)
		}
		check(t, line)
	}
}

func TestEachByte(t *testing.T) {
	for i := range 256 {
		s := string([]byte{byte(i)})
		for _, line := range []string{"", "pop", "why x", "leq k x y", "chain k {a}", "grid g {a} {a<b}", "roweq k [f=x] r"} {
			for at := range len(line) + 1 {
				check(t, line[:at]+s+line[at:])
				check(t, line[:at]+" "+s+" "+line[at:])
				check(t, line[:at]+s+line[min(at+1, len(line)):])
			}
		}
	}
}

func TestAllShortLines(t *testing.T) {
	try := func(line string) { check(t, line) }
	for _, k := range append([]string{"", "a", "("}, keywords...) {
		each(k, "a#+&(){}[],:=|<", 4, try)
		// These have brackets that do not fit, too.
		for i := range 15 * 15 * 15 {
			const tokens = "a#+&(){}[],:=|<"
			check(t, k+" "+string([]byte{tokens[i/225], tokens[i/15%15], tokens[i%15]}))
		}
	}
	for _, k := range []string{"leq k", "leq k x", "roweq k", "roweq k r", "grid g {a}", "row k", "lacks r"} {
		each(k, "a#+&(){}[],:=|<", 5, try)
	}
	for _, k := range []string{"chain k", "grid g", "table t", "label"} {
		each(k, "a{},", 8, try)
	}
	for _, k := range []string{"grid g {a} {", "table t {a,b} {"} {
		each(k+"}", "a{}<,", 5, try)
		each(k, "a<,", 9, func(line string) { check(t, line+" }") })
		each(k, "a<,{}(", 5, func(line string) { check(t, line+"}") })
	}
	for _, k := range []string{"leq k", "leq k +(x)", "leq k #{}"} {
		each(k, "a#+(),", 7, try)
	}
	for _, k := range []string{"roweq k", "roweq k []"} {
		each(k, "a#=|[],", 7, try)
	}
	each("lacks", "a,#{}", 5, try)
	each("why", "a,#{}", 5, try)
}

// Every keyword can be a name, and no other name is a keyword.
func TestKeywords(t *testing.T) {
	for _, k := range keywords {
		for _, line := range []string{"chain %{%}", "why %", "lacks % %", "leq % % #%", "roweq % % [%=%|%]", "grid %{%,%}{%<%}"} {
			if !check(t, strings.ReplaceAll(line, "%", k)) {
				t.Errorf("%q is wrong with the name %q", line, k)
			}
		}
		for n := range len(k) {
			for _, s := range []string{k[:n], k[n:], k + k[n:], k[:n] + "_" + k[n:], k[:n] + "1" + k[n:]} {
				for _, parts := range []string{"", " k", " k {a}", " k {a} {}", " k x y", " k [] []", " {}"} {
					if check(t, s+parts) && !slices.Contains(append(keywords, ""), s) {
						t.Errorf("%q is a keyword", s)
					}
				}
			}
		}
	}
}

func TestMixedLines(t *testing.T) {
	next := mixed()
	right, wrong := 0, 0
	for range 100000 {
		s := drawn(next)
		if !check(t, s) {
			t.Fatalf("%q is wrong", s)
		}
		if check(t, marred(s, next)) {
			right++
		} else {
			wrong++
		}
	}
	if right < 5000 || wrong < 50000 {
		t.Errorf("%d lines are right, and %d wrong", right, wrong)
	}
}

// Only brackets and names have limits here.
func TestLimits(t *testing.T) {
	for n := 20; n < 30; n++ {
		tuple := "#" + strings.Repeat("(", n-1) + "{}" + strings.Repeat(")", n-1)
		meet := strings.Repeat("&(", n) + "a" + strings.Repeat(")", n)
		field := "[f=#" + strings.Repeat("(", n-1) + "a" + strings.Repeat(")", n-1) + "|s]"
		for _, line := range []string{"leq k " + tuple + "y", "leq k y " + tuple, "leq k" + meet + meet, "roweq k" + field + "r", "roweq k" + field + field} {
			if right := check(t, line); right != (n <= api.MaxDepth) {
				t.Errorf("%q is right: %v", line, right)
			}
		}
	}
	for n := 1; n < 40; n++ {
		long := strings.Repeat("z", n)
		for _, line := range []string{"why %", "chain %{b}", "chain b{%}", "grid b{b}{b<%}", "grid b{b}{%<b}", "lacks % b", "lacks b %", "leq k % b", "leq k b #%", "roweq k [%=b]b"} {
			if right := check(t, strings.Replace(line, "%", long, 1)); right != (n <= api.MaxName) {
				t.Errorf("%q is right with a name of %d bytes: %v", line, n, right)
			}
		}
	}
}

// A line and its lists may be longer than what any later layer accepts.
func TestLongLines(t *testing.T) {
	for _, n := range []int{7, 8, 9, 63, 64, 65, 340, 341, 342, 1 << 13} {
		more := func(s string) string { return s + strings.Repeat(","+s, n-1) }
		for _, line := range []string{"chain k{" + more("a") + "}", "product p{" + more("a") + "}", "table t{a}{" + more("a<b") + "}", "leq k+(" + more("x") + ")y", "roweq k[" + more("f=x") + "|r][]", "why" + strings.Repeat(" ", n) + "x", "pop" + strings.Repeat("-", n)} {
			if !check(t, line) {
				t.Errorf("%.20q is wrong with %d elements", line, n)
			}
			check(t, strings.Replace(line, "}", ",}", 1))
			check(t, line+" ,")
		}
	}
	c := parsed(t, "chain k{"+strings.Repeat("a,", 1<<16)+"a}")
	if len(c.Names) != 1<<16+1 || c.Names[1<<16].At != 8+2<<16 {
		t.Errorf("%d names", len(c.Names))
	}
}

// P12.2: Text, Word, Same.

func TestWord(t *testing.T) {
	for i, k := range keywords {
		if got := command.Word(i + 1); got != k {
			t.Errorf("Word(%d) = %q, want %q", i+1, got, k)
		}
	}
	for _, n := range []int{api.OpBlank, 16, 17, 255, 256, 257, 1 << 32, 1<<32 + 1, math.MaxInt, -1, -2, -15, math.MinInt, math.MinInt + 1} {
		if got := command.Word(n); got != "" {
			t.Errorf("Word(%d) = %q", n, got)
		}
		if got := command.Text(api.Cmd{Op: n, Name: api.Word{Text: "k"}, Names: []api.Word{{Text: "a"}}, Left: v("x", 0)}); got != "" {
			t.Errorf("the Text of number %d is %q", n, got)
		}
	}
	for op, k := range map[int]string{api.OpChain: "chain", api.OpPower: "power", api.OpProduct: "product", api.OpGrid: "grid", api.OpTable: "table", api.OpLabel: "label", api.OpRow: "row", api.OpLeq: "leq", api.OpRoweq: "roweq", api.OpLacks: "lacks", api.OpPush: "push", api.OpPop: "pop", api.OpCheck: "check", api.OpCore: "core", api.OpWhy: "why"} {
		if got := command.Word(op); got != k {
			t.Errorf("Word(%d) = %q, want %q", op, got, k)
		}
	}
}

// What a command has not is written as nothing, and what its Text does not have is not written.
func TestText(t *testing.T) {
	full := api.Cmd{
		At: 3, Name: api.Word{Text: "n", At: 2}, Names: []api.Word{{Text: "a", At: 9}, {Text: "b"}, {}}, PairsAt: 7,
		Pairs: [][2]api.Word{{{Text: "a"}, {Text: "b"}}, {{}, {Text: "c"}}, {}},
		Left:  parsed(t, "leq k +(x, #{a}) y").Left, Right: parsed(t, "roweq k r [f = x|r]").Right,
	}
	odd := api.Cmd{Name: api.Word{Text: "1 {"}, Names: []api.Word{{Text: "}, "}}, Pairs: [][2]api.Word{{{Text: "<"}, {Text: " "}}}, Left: api.Node{Kind: 99, Text: "x"}, Right: api.Node{Kind: api.NodeSet}}
	for op, want := range [][3]string{
		{"", "", ""},
		{"chain  {}", "chain n {a,b,}", "chain 1 { {}, }"},
		{"power  {}", "power n {a,b,}", "power 1 { {}, }"},
		{"product  {}", "product n {a,b,}", "product 1 { {}, }"},
		{"grid  {} {}", "grid n {a,b,} {a<b,<c,<}", "grid 1 { {}, } {<< }"},
		{"table  {} {}", "table n {a,b,} {a<b,<c,<}", "table 1 { {}, } {<< }"},
		{"label  {}", "label n {a,b,}", "label 1 { {}, }"},
		{"row  {}", "row n {a,b,}", "row 1 { {}, }"},
		{"leq   ", "leq n +(x,#{a}) [f=x|r]", "leq 1 {  {}"},
		{"roweq   ", "roweq n +(x,#{a}) [f=x|r]", "roweq 1 {  {}"},
		{"lacks  ", "lacks n a,b,", "lacks 1 { }, "},
		{"push", "push", "push"},
		{"pop", "pop", "pop"},
		{"check", "check", "check"},
		{"core", "core", "core"},
		{"why ", "why n", "why 1 {"},
	} {
		for i, c := range []api.Cmd{{}, full, odd} {
			c.Op = op
			if got := command.Text(c); got != want[i] {
				t.Errorf("Text(%v) = %q, want %q", c, got, want[i])
			}
		}
	}
}

// variants returns commands with these numbers, of which no two are the same.
func variants(numbers ...int) []api.Cmd {
	w := func(l ...string) (words []api.Word) {
		for _, s := range l {
			words = append(words, api.Word{Text: s})
		}
		return words
	}
	p := func(l ...string) (pairs [][2]api.Word) {
		for i := 0; i < len(l); i += 2 {
			pairs = append(pairs, [2]api.Word{{Text: l[i]}, {Text: l[i+1]}})
		}
		return pairs
	}
	nodes := []api.Node{
		{}, v("a", 0), v("b", 0), {Kind: api.NodePoint, Text: "a"}, {Kind: api.NodeRow}, {Kind: api.NodeRow, Names: w("a")}, {Kind: api.NodeJoin, Kids: []api.Node{v("a", 0)}}, {Kind: api.NodeJoin, Kids: []api.Node{v("a", 0), v("b", 0)}}, {Kind: api.NodeMeet, Kids: []api.Node{v("a", 0)}},
		{Kind: api.NodeConst, Kids: []api.Node{{Kind: api.NodePoint, Text: "a"}}}, {Kind: api.NodeConst, Kids: []api.Node{{Kind: api.NodeSet, Names: w("a", "b")}}}, {Text: "a"}, {Names: w("")}, {Kids: []api.Node{{}}}, {Kind: -1},
		{Kind: api.NodeRow, Kids: []api.Node{{Kind: api.NodeField, Text: "a", Kids: []api.Node{v("a", 0)}}}},
	}
	var l []api.Cmd
	for _, n := range numbers {
		c := api.Cmd{Op: n}
		l = append(l, c)
		for _, s := range []string{"a", "b", "ab", "1", " ", "abcdefghijklmnop", "abcdefghijklmnopq"} {
			c.Name.Text = s
			l = append(l, c)
		}
		for _, s := range []string{"", "a"} {
			c = api.Cmd{Op: n, Name: api.Word{Text: s}}
			for _, names := range [][]api.Word{w("a"), w("b"), w(""), w("a", "b"), w("b", "a"), w("a", "a"), w("a", "b", "c"), w("a,b"), w("a", "1"), w("A", "a"), w("abcdefghijklmnop"), w("abcdefghijklmnopq")} {
				c.Names = names
				l = append(l, c)
			}
			for _, names := range [][]api.Word{nil, w("a"), w("b", "b")} {
				c.Names = names
				for _, pairs := range [][][2]api.Word{p("a", "b"), p("b", "a"), p("a", "a"), p("a", "b", "b", "c"), p("b", "c", "a", "b"), p("", ""), p("a<b", "c"), p("a", "b<c"), p("a", ""), p("", "a"), p("a", "b", "", "c"), p("a", "b,b", "c", "d"), p("a", "abcdefghijklmnopq"), p("aB", "a")} {
					c.Pairs = pairs
					l = append(l, c)
				}
				c.Pairs = nil
				for i, left := range nodes {
					for j, right := range nodes {
						if i+j > 0 {
							c.Left, c.Right = left, right
							l = append(l, c)
						}
					}
				}
				c.Left, c.Right = api.Node{}, v("a", 0)
				c.Pairs = p("a", "b")
				l = append(l, c)
				c.Left, c.Right = v("a", 0), v("b", 0)
				l = append(l, c)
				c.Pairs, c.Left, c.Right = nil, api.Node{}, api.Node{}
			}
		}
	}
	return l
}

// shifted returns a copy of c, which shares no memory with it, with other offsets.
func shifted(c api.Cmd, next func(n int) int) api.Cmd {
	place := func() int { return next(99) - 50 }
	c.At, c.Name.At, c.PairsAt = place(), place(), place()
	c.Names, c.Pairs = slices.Clone(c.Names), slices.Clone(c.Pairs)
	for i := range c.Names {
		c.Names[i].At = place()
	}
	for i := range c.Pairs {
		c.Pairs[i][0].At, c.Pairs[i][1].At = place(), place()
	}
	c.Left, c.Right = shiftedNode(c.Left, next), shiftedNode(c.Right, next)
	return c
}

// shiftedNode is shifted for nodes.
func shiftedNode(n api.Node, next func(n int) int) api.Node {
	n.At = next(99) - 50
	n.Names, n.Kids = slices.Clone(n.Names), slices.Clone(n.Kids)
	for i := range n.Names {
		n.Names[i].At = next(99) - 50
	}
	for i, k := range n.Kids {
		n.Kids[i] = shiftedNode(k, next)
	}
	return n
}

func TestSame(t *testing.T) {
	l := variants(0, 8, -1)
	next := mixed()
	moved := make([]api.Cmd, len(l))
	for i, c := range l {
		moved[i] = shifted(c, next)
	}
	for i, a := range moved {
		for j, b := range l {
			if got := command.Same(a, b); got != (i == j) {
				t.Fatalf("Same(%v, %v) = %v", a, b, got)
			}
		}
	}
	empty := api.Cmd{Names: []api.Word{}, Pairs: [][2]api.Word{}, Left: api.Node{Names: []api.Word{}, Kids: []api.Node{}}}
	if !command.Same(empty, api.Cmd{}) || !command.Same(api.Cmd{}, empty) {
		t.Error("empty lists are not the same as none")
	}
}

func TestSameOfLines(t *testing.T) {
	next := mixed()
	for range 20000 {
		s, u := drawn(next), drawn(next)
		a, b := parsed(t, s), parsed(t, u)
		if got := command.Same(a, b); got != (command.Text(a) == command.Text(b)) {
			t.Fatalf("Same of %q and %q is %v", s, u, got)
		}
		if c := parsed(t, " \t "+strings.ReplaceAll(strings.ReplaceAll(s, ",", " , "), "<", "\t< ")); !command.Same(a, c) {
			t.Fatalf("%q is not the same with blanks", s)
		}
	}
}

// P12.3: Right.

// needs has for each number whether the command has a Name, at least and at most how many Names it has, whether it has Pairs, and what its terms are.
var needs = []struct {
	name        bool
	least, most int
	pairs       bool
	is          func(n api.Node) bool
}{
	{false, 0, 0, false, nothing},
	{true, 1, math.MaxInt, false, nothing},
	{true, 1, math.MaxInt, false, nothing},
	{true, 1, math.MaxInt, false, nothing},
	{true, 1, math.MaxInt, true, nothing},
	{true, 1, math.MaxInt, true, nothing},
	{true, 1, math.MaxInt, false, nothing},
	{true, 1, math.MaxInt, false, nothing},
	{true, 0, 0, false, term.IsLabel},
	{true, 0, 0, false, term.IsRow},
	{true, 1, 1, false, nothing},
	{false, 0, 0, false, nothing},
	{false, 0, 0, false, nothing},
	{false, 0, 0, false, nothing},
	{false, 0, 0, false, nothing},
	{true, 0, 0, false, nothing},
}

// nothing reports whether n has nothing but an offset.
func nothing(n api.Node) bool {
	return n.Kind == 0 && n.Text == "" && len(n.Names) == 0 && len(n.Kids) == 0
}

// isName reports whether s is a name as chapter 2 defines it.
func isName(s string) bool {
	return len(s) >= 1 && len(s) <= 16 && s[0] >= 'a' && s[0] <= 'z' && strings.Trim(s, "abcdefghijklmnopqrstuvwxyz0123456789_") == ""
}

// couldBe reports whether c has all that a command with its number has, and nothing else.
func couldBe(c api.Cmd) bool {
	if c.Op < 0 || c.Op >= len(needs) {
		return false
	}
	row := needs[c.Op]
	if row.name != (c.Name.Text != "") || row.name && !isName(c.Name.Text) || len(c.Names) < row.least || len(c.Names) > row.most || !row.pairs && len(c.Pairs) > 0 {
		return false
	}
	words := slices.Clone(c.Names)
	for _, p := range c.Pairs {
		words = append(words, p[0], p[1])
	}
	for _, w := range words {
		if !isName(w.Text) {
			return false
		}
	}
	return row.is(c.Left) && row.is(c.Right)
}

// checkRight compares Right with both models: the parts that a command needs, and what its Text is parsed as, which needs few levels.
func checkRight(t *testing.T, c api.Cmd) bool {
	t.Helper()
	got, want := command.Right(c), couldBe(c)
	again, f := command.Read(command.Text(c))
	if got != want || got != (f == (api.Fault{}) && command.Same(again, c)) {
		t.Fatalf("%v could be parsed: %v, want %v; its Text is parsed as %v, %v", c, got, want, again, f)
	}
	return got
}

func TestRightOfVariants(t *testing.T) {
	next := mixed()
	right := map[int]int{}
	for _, c := range variants(0) {
		for n := -2; n < 20; n++ {
			c.Op = n
			if checkRight(t, shifted(c, next)) {
				right[n]++
			}
		}
	}
	for n := range 16 {
		if right[n] == 0 {
			t.Errorf("no command with the number %d could be parsed", n)
		}
	}
	for _, n := range []int{1 << 32, 1<<32 + 11, math.MaxInt, math.MinInt, math.MinInt + 11} {
		if command.Right(api.Cmd{Op: n}) {
			t.Errorf("number %d could be parsed", n)
		}
	}
}

// Every two of these changes are made to a command of each form.
func TestRightOfMarredCommands(t *testing.T) {
	words := []api.Word{{Text: "a"}}
	changes := map[string]func(c *api.Cmd){
		"no name":         func(c *api.Cmd) { c.Name.Text = "" },
		"a wrong name":    func(c *api.Cmd) { c.Name.Text = "A" },
		"a long name":     func(c *api.Cmd) { c.Name.Text = strings.Repeat("a", 17) },
		"a name":          func(c *api.Cmd) { c.Name.Text = "a" },
		"no names":        func(c *api.Cmd) { c.Names = nil },
		"names":           func(c *api.Cmd) { c.Names = words },
		"one more name":   func(c *api.Cmd) { c.Names = append(slices.Clone(c.Names), words...) },
		"a wrong one":     func(c *api.Cmd) { c.Names = append(slices.Clone(c.Names), api.Word{Text: "_"}) },
		"an empty one":    func(c *api.Cmd) { c.Names = append(slices.Clone(c.Names), api.Word{}) },
		"no pairs":        func(c *api.Cmd) { c.Pairs = nil },
		"a pair":          func(c *api.Cmd) { c.Pairs = [][2]api.Word{{words[0], words[0]}} },
		"a wrong low":     func(c *api.Cmd) { c.Pairs = append(slices.Clone(c.Pairs), [2]api.Word{{Text: "9"}, words[0]}) },
		"a wrong high":    func(c *api.Cmd) { c.Pairs = append(slices.Clone(c.Pairs), [2]api.Word{words[0], {}}) },
		"no left":         func(c *api.Cmd) { c.Left = api.Node{} },
		"no right":        func(c *api.Cmd) { c.Right = api.Node{} },
		"a left offset":   func(c *api.Cmd) { c.Left.At = 5 },
		"a left text":     func(c *api.Cmd) { c.Left.Text += "a" },
		"right names":     func(c *api.Cmd) { c.Right.Names = words },
		"right kids":      func(c *api.Cmd) { c.Right.Kids = []api.Node{v("x", 0)} },
		"a variable":      func(c *api.Cmd) { c.Left = v("x", 0) },
		"another one":     func(c *api.Cmd) { c.Right = v("y", 3) },
		"a constant":      func(c *api.Cmd) { c.Right = parsed(t, "leq k x #{a}").Right },
		"its inside":      func(c *api.Cmd) { c.Right = parsed(t, "leq k x #{a}").Right.Kids[0] },
		"a join":          func(c *api.Cmd) { c.Left = parsed(t, "leq k +(x,y) x").Left },
		"a row":           func(c *api.Cmd) { c.Left = parsed(t, "roweq k [f=x] x").Left },
		"its field":       func(c *api.Cmd) { c.Right = parsed(t, "roweq k [f=x] x").Left.Kids[0] },
		"terms exchanged": func(c *api.Cmd) { c.Left, c.Right = c.Right, c.Left },
		"offsets":         func(c *api.Cmd) { *c = shifted(*c, mixed()) },
		"a place":         func(c *api.Cmd) { c.PairsAt++ },
		"no number":       func(c *api.Cmd) { c.Op = 0 },
		"a next number":   func(c *api.Cmd) { c.Op++ },
		"a lower number":  func(c *api.Cmd) { c.Op-- },
	}
	lines := []string{"", "chain k {a}", "power k {a,b,c}", "product p {k,k}", "grid g {p,q} {}", "grid g {p,q} {p<q}", "table t {a} {a<a,b<c}", "label k {x}", "row k {r,s}", "leq k x #{a}", "leq k &(x,y) +(z,#[])", "roweq k r s", "roweq k [f=x|r] []", "lacks r f", "push", "pop", "check", "core", "why x"}
	for _, line := range lines {
		c := parsed(t, line)
		if !checkRight(t, c) {
			t.Errorf("%q could not be parsed", line)
		}
		for _, change := range changes {
			d := c
			change(&d)
			checkRight(t, d)
			for _, another := range changes {
				e := d
				another(&e)
				checkRight(t, e)
			}
		}
	}
}

func TestRightOfMixedCommands(t *testing.T) {
	next := mixed()
	right := 0
	for range 60000 {
		c := parsed(t, drawn(next))
		d := parsed(t, drawn(next))
		for range next(4) {
			switch next(7) {
			case 0:
				c.Op = next(18) - 1
			case 1:
				c.Name = d.Name
			case 2:
				c.Names = d.Names
			case 3:
				c.Pairs = d.Pairs
			case 4:
				c.Left = d.Left
			case 5:
				c.Right = d.Right
			case 6:
				c.Left, c.Right = d.Right, d.Left
			}
		}
		if checkRight(t, c) {
			right++
		}
	}
	if right < 15000 {
		t.Errorf("only %d commands could be parsed", right)
	}
}

// P12.4: the laws. The function check tests them for every right line, and checkRight for every command of few levels.

// The Text of a command with many levels is nothing but too deep.
func TestDeepCommands(t *testing.T) {
	for _, n := range []int{23, 24, 25, 1000, deepest - 2} {
		label, inside := v("x", 0), api.Node{Kind: api.NodePoint, Text: "a"}
		for i := range n {
			label = api.Node{Kind: api.NodeJoin + i%2, Kids: []api.Node{label}}
			inside = api.Node{Kind: api.NodeTuple, Kids: []api.Node{inside}}
		}
		k := api.Word{Text: "k"}
		constant := api.Node{Kind: api.NodeConst, Kids: []api.Node{inside}}
		row := api.Node{Kind: api.NodeRow, Kids: []api.Node{{Kind: api.NodeField, Text: "f", Kids: []api.Node{constant}}}}
		for i, c := range []api.Cmd{
			{Op: api.OpLeq, Name: k, Left: label, Right: constant},
			{Op: api.OpRoweq, Name: k, Left: row, Right: row},
		} {
			text := command.Text(c)
			if !command.Right(c) || !command.Same(c, c) || len(text) < 4*n || command.Right(api.Cmd{Op: 3 - c.Op, Left: c.Left}) {
				t.Errorf("%d levels give the Text %.30q", n, text)
			}
			again, f := command.Read(text)
			if n+i <= api.MaxDepth {
				if f != (api.Fault{}) || !command.Same(again, c) {
					t.Errorf("%d levels give %v", n, f)
				}
				continue
			}
			// At the bracket that is one too many.
			at := strings.Index(text, strings.Repeat("(", 2)) + 24 - i
			if i == 0 {
				at = len("leq k ") + 2*24 + 1
			}
			if f != (api.Fault{Class: api.Form, At: at}) || !reflect.DeepEqual(again, api.Cmd{}) {
				t.Errorf("%d levels give %v, want a fault at %d", n, f, at)
			}
		}
	}
}

// Memory.

// span is a piece of memory.
type span struct{ begin, end uintptr }

// spanOf returns the memory of l, with what lies beyond its length.
func spanOf[T any](l []T) span {
	var one T
	begin := uintptr(unsafe.Pointer(unsafe.SliceData(l)))
	return span{begin, begin + uintptr(cap(l))*unsafe.Sizeof(one)}
}

// spansOf returns the memory of the lists of c.
func spansOf(c api.Cmd) []span {
	l := []span{spanOf(c.Names), spanOf(c.Pairs)}
	var add func(n api.Node)
	add = func(n api.Node) {
		l = append(l, spanOf(n.Names), spanOf(n.Kids))
		for _, k := range n.Kids {
			add(k)
		}
	}
	add(c.Left)
	add(c.Right)
	return l
}

func TestResultsShareNoMemory(t *testing.T) {
	for _, line := range []string{"grid g {a,b,c} {a<b,b<c,c<a}", "chain k {a,b}", "lacks r f", "leq k +(x,&(y,#{a,b}),#[p:{q}],z) #(a,{b,c})", "roweq k [f=x,g=#(a,{b,c})|r] [f=x|s]"} {
		bytes := []byte(line)
		given := unsafe.String(&bytes[0], len(bytes))
		a, _ := command.Read(given)
		b, _ := command.Read(line)
		clear(bytes)
		if text := command.Text(a); text != line || !exact(a, b) {
			t.Errorf("%q has become %q", line, text)
		}
		all := append(spansOf(a), spansOf(b)...)
		for i, s := range all {
			for _, u := range all[:i] {
				if s.begin < u.end && u.begin < s.end {
					t.Errorf("two lists of %q share memory", line)
				}
			}
		}
	}
}

// What lies beyond the length of a list is neither read nor written, and no argument changes.
func TestArgumentsAreOnlyRead(t *testing.T) {
	for i, line := range []string{"grid g {a,b,c} {a<b,b<c,c<a}", "leq k +(x,y,z) &(x,y,z)", "roweq k [f=x,g=y|r] [f=x,g=y|r]", "lacks r f"} {
		c := parsed(t, line)
		if i == 0 {
			c.Names, c.Pairs = c.Names[:2], c.Pairs[:1]
		} else if i < 3 {
			c.Left.Kids, c.Right.Kids = c.Left.Kids[:1], c.Right.Kids[:2]
		}
		whole := func() string {
			d := c
			d.Names, d.Pairs = d.Names[:cap(d.Names)], d.Pairs[:cap(d.Pairs)]
			d.Left.Kids, d.Right.Kids = d.Left.Kids[:cap(d.Left.Kids)], d.Right.Kids[:cap(d.Right.Kids)]
			return command.Text(d)
		}
		before := whole()
		want := []string{"grid g {a,b} {a<b}", "leq k +(x) &(x,y)", "roweq k [f=x|r] [f=x,g=y|r]", "lacks r f"}[i]
		if text := command.Text(c); text != want || !command.Right(c) || !command.Same(c, parsed(t, want)) {
			t.Errorf("%q is shortened to %q", line, text)
		}
		if after := whole(); after != before {
			t.Errorf("%q has become %q", before, after)
		}
	}
}

// The same line gives the same command, whatever has been read before.
func TestReadKeepsNothing(t *testing.T) {
	next := mixed()
	var lines []string
	var first []api.Cmd
	for i := range 2000 {
		lines = append(lines, drawn(next)+strings.Repeat(" ", i%3)+"--"+strconv.Itoa(i))
		first = append(first, parsed(t, lines[i]))
	}
	for i := len(lines) - 1; i >= 0; i-- {
		command.Read(marred(lines[i], next))
		if c := parsed(t, lines[i]); !exact(c, first[i]) {
			t.Fatalf("%q is %v, and was %v", lines[i], c, first[i])
		}
	}
}
