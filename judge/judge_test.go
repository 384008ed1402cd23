package judge_test

import (
	"cmp"
	"math"
	"math/big"
	"reflect"
	"slices"
	"strconv"
	"strings"
	"testing"
	"unsafe"

	"clearance/api"
	"clearance/command"
	"clearance/fit"
	"clearance/judge"
	"clearance/scope"
)

// none is the fault that reports that there is none.
var none = api.Fault{}

// free is a room in which nothing is at its limit.
var free = judge.Room{Frames: 2}

// extremes are the numbers that a room should not have, but may.
var extremes = []int{math.MinInt, math.MinInt + 1, math.MinInt32, -16385, -1, 0, math.MaxInt32, math.MaxInt - 1025, math.MaxInt - 1, math.MaxInt}

// declared returns the scope that the lines declare.
func declared(t *testing.T, lines ...string) api.Scope {
	t.Helper()
	var s api.Scope
	for _, line := range lines {
		c, f := command.Read(line)
		if f == none {
			f = scope.Fault(s, c)
		}
		if f != none {
			t.Fatalf("%q gives %v", line, f)
		}
		s = scope.Add(s, c)
	}
	return s
}

// sample returns a scope with a lattice of each kind, labels of all of them and two rows. The numbers of the variables: x 0, y 1, r 2, s 3, u 4, o 5, d 6, z 7.
func sample(t *testing.T) api.Scope {
	t.Helper()
	return declared(t, "chain k {lo,hi}", "power p {a,b}", "grid g {m,q} {m<q}", "table t {bot,a,b,top} {bot<a,bot<b,a<top,b<top}", "product w {k,p,g,t}",
		"label k {x,y}", "row k {r,s}", "label p {u}", "label g {o}", "label t {d}", "label w {z}")
}

// each has a line without a fault in the sample for each number of a command.
var each = []string{"", "chain n {a}", "power n {a,b}", "product n {k,p}", "grid n {a,b} {a<b}", "table n {a,b} {a<b}", "label k {n,i}", "row w {n}", "leq k +(x,#hi) y", "roweq k r [f=x,g=#hi|s]", "lacks r f", "push", "pop", "check", "core", "why x"}

// elem returns the element with these words.
func elem(words ...uint64) api.Elem {
	var e api.Elem
	copy(e[:], words)
	return e
}

// The results, with empty lists as nil ones.

func plainNode(n api.Node) api.Node {
	n.Names = append([]api.Word(nil), n.Names...)
	kids := n.Kids
	n.Kids = nil
	for _, kid := range kids {
		n.Kids = append(n.Kids, plainNode(kid))
	}
	return n
}

func plain(c api.Cmd) api.Cmd {
	c.Names = append([]api.Word(nil), c.Names...)
	c.Pairs = append([][2]api.Word(nil), c.Pairs...)
	c.Left, c.Right = plainNode(c.Left), plainNode(c.Right)
	return c
}

func plainAssert(a api.Assert) api.Assert {
	a.Code = append([]api.Ins(nil), a.Code...)
	a.A.Fields = append([]api.Field(nil), a.A.Fields...)
	a.B.Fields = append([]api.Field(nil), a.B.Fields...)
	return a
}

// judged returns the results for a line, which must be zero values beside a fault.
func judged(t *testing.T, s api.Scope, room judge.Room, line string) (api.Cmd, api.Assert, api.Fault) {
	t.Helper()
	c, a, f := judge.Line(s, room, line)
	c, a = plain(c), plainAssert(a)
	if f != none && (f.Class == 0 || !reflect.DeepEqual(c, api.Cmd{}) || !reflect.DeepEqual(a, api.Assert{})) {
		t.Fatalf("%.80q in %v gives %v beside the fault %v, %v", line, room, c, a, f)
	}
	return c, a, f
}

// wantFault fails unless the line has this fault.
func wantFault(t *testing.T, s api.Scope, room judge.Room, line string, want api.Fault) {
	t.Helper()
	if _, _, got := judged(t, s, room, line); got != want {
		t.Errorf("%.80q of %d bytes in %v gives %v and not %v", line, len(line), room, got, want)
	}
}

// The model follows the promise item by item.

// isOneOf reports whether the command is one of those with these keywords.
func isOneOf(c api.Cmd, keywords string) bool {
	return c.Op != 0 && slices.Contains(strings.Fields(keywords), command.Word(c.Op))
}

// modelLimits returns the faults of the room.
func modelLimits(room judge.Room, c api.Cmd) []api.Fault {
	var l []api.Fault
	if isOneOf(c, "chain power product grid table label row leq roweq lacks") {
		text := big.NewInt(int64(len(command.Text(c))))
		if text.Cmp(big.NewInt(1024)) > 0 {
			l = append(l, api.Fault{Class: 7, At: c.At})
		}
		sum := new(big.Int).Add(text, big.NewInt(1))
		sum.Add(sum, big.NewInt(int64(room.Bytes)))
		if sum.Cmp(big.NewInt(16384)) > 0 {
			l = append(l, api.Fault{Class: 7, At: c.At})
		}
	}
	if isOneOf(c, "leq roweq lacks") && room.Asserts >= 64 {
		l = append(l, api.Fault{Class: 7, At: c.At})
	}
	if isOneOf(c, "push") && room.Frames >= 16 {
		l = append(l, api.Fault{Class: 7, At: c.At})
	}
	if isOneOf(c, "pop") && room.Frames < 2 {
		l = append(l, api.Fault{Class: 8, At: c.At})
	}
	return l
}

// model returns what Line must return.
func model(s api.Scope, room judge.Room, line string) (api.Cmd, api.Assert, api.Fault) {
	c, f := command.Read(line)
	if f != none {
		return api.Cmd{}, api.Assert{}, f
	}
	l := modelLimits(room, c)
	for _, f := range []api.Fault{scope.Fault(s, c), fit.Fault(s, c)} {
		if f != none {
			l = append(l, f)
		}
	}
	if len(l) > 0 {
		slices.SortFunc(l, func(a, b api.Fault) int {
			return cmp.Or(cmp.Compare(a.Class, b.Class), cmp.Compare(a.At, b.At))
		})
		return api.Cmd{}, api.Assert{}, l[0]
	}
	var a api.Assert
	if isOneOf(c, "leq roweq lacks") {
		a, _ = fit.Assert(s, c)
	}
	return c, a, none
}

// check compares the results for a line with those of the model, and returns them.
func check(t *testing.T, s api.Scope, room judge.Room, line string) (api.Cmd, api.Assert, api.Fault) {
	t.Helper()
	c, a, f := judged(t, s, room, line)
	mc, ma, mf := model(s, room, line)
	if f != mf || !reflect.DeepEqual(c, plain(mc)) || !reflect.DeepEqual(a, plainAssert(ma)) {
		t.Fatalf("%q in %v gives %v %v %v and not %v %v %v", line, room, c, a, f, mc, ma, mf)
	}
	return c, a, f
}

// P16.1: Line.

func TestCommandsAndAssertions(t *testing.T) {
	s := sample(t)
	for op, line := range each {
		c, a, f := check(t, s, free, line)
		if f != none || c.Op != op {
			t.Errorf("%q gives %v and the number %d", line, f, c.Op)
		}
		if isAssert := op >= api.OpLeq && op <= api.OpLacks; !isAssert && !reflect.DeepEqual(a, api.Assert{}) || isAssert && (a.Op != op || !fit.Right(s, a)) {
			t.Errorf("%q gives the assertion %v", line, a)
		}
	}
}

func TestResultsAsTheyAreWritten(t *testing.T) {
	s := sample(t)
	word := func(text string, at int) api.Word { return api.Word{Text: text, At: at} }
	variable := func(text string, at int) api.Node { return api.Node{Kind: api.NodeVar, Text: text, At: at} }
	hi := api.Node{Kind: api.NodeConst, At: 9, Kids: []api.Node{{Kind: api.NodePoint, Text: "hi", At: 10}}}
	for _, c := range []struct {
		line    string
		command api.Cmd
		assert  api.Assert
	}{
		{"", api.Cmd{}, api.Assert{}},
		{" \t -- leq k x y", api.Cmd{}, api.Assert{}},
		{"  push", api.Cmd{Op: api.OpPush, At: 2}, api.Assert{}},
		{"pop -- now", api.Cmd{Op: api.OpPop}, api.Assert{}},
		{"\tcheck\t", api.Cmd{Op: api.OpCheck, At: 1}, api.Assert{}},
		{"core", api.Cmd{Op: api.OpCore}, api.Assert{}},
		{" why  x", api.Cmd{Op: api.OpWhy, At: 1, Name: word("x", 6)}, api.Assert{}},
		{"chain n {a}", api.Cmd{Op: api.OpChain, Name: word("n", 6), Names: []api.Word{word("a", 9)}}, api.Assert{}},
		{"table n {a,b}{a<b}", api.Cmd{Op: api.OpTable, Name: word("n", 6), Names: []api.Word{word("a", 9), word("b", 11)}, Pairs: [][2]api.Word{{word("a", 14), word("b", 16)}}, PairsAt: 13}, api.Assert{}},
		{"leq  k y x", api.Cmd{Op: api.OpLeq, Name: word("k", 5), Left: variable("y", 7), Right: variable("x", 9)},
			api.Assert{Op: api.OpLeq, Code: []api.Ins{{Op: api.PushVar, N: 1}}}},
		{"leq k x  #hi", api.Cmd{Op: api.OpLeq, Name: word("k", 4), Left: variable("x", 6), Right: hi},
			api.Assert{Op: api.OpLeq, Code: []api.Ins{{Op: api.PushVar}}, To: api.Atom{Var: -1, Const: elem(1)}}},
		{"leq p u #{b}", api.Cmd{Op: api.OpLeq, Name: word("p", 4), Left: variable("u", 6), Right: api.Node{Kind: api.NodeConst, At: 8, Kids: []api.Node{{Kind: api.NodeSet, At: 9, Names: []api.Word{word("b", 10)}}}}},
			api.Assert{Op: api.OpLeq, Lat: 1, Code: []api.Ins{{Op: api.PushVar, N: 4}}, To: api.Atom{Var: -1, Const: elem(2)}}},
		{"roweq k r [f=y|s]", api.Cmd{Op: api.OpRoweq, Name: word("k", 6), Left: variable("r", 8), Right: api.Node{Kind: api.NodeRow, At: 10, Names: []api.Word{word("s", 15)}, Kids: []api.Node{{Kind: api.NodeField, Text: "f", At: 11, Kids: []api.Node{variable("y", 13)}}}}},
			api.Assert{Op: api.OpRoweq, A: api.RowTerm{Tail: 2}, B: api.RowTerm{Fields: []api.Field{{Name: "f", Atom: api.Atom{Var: 1}}}, Tail: 3}}},
		{" lacks s f", api.Cmd{Op: api.OpLacks, At: 1, Name: word("s", 7), Names: []api.Word{word("f", 9)}},
			api.Assert{Op: api.OpLacks, Var: 3, Field: "f"}},
	} {
		got, a, f := judged(t, s, free, c.line)
		if f != none || !reflect.DeepEqual(got, c.command) || !reflect.DeepEqual(a, c.assert) {
			t.Errorf("%q gives %v %v %v", c.line, got, a, f)
		}
	}
}

func TestFaultsOfEachClass(t *testing.T) {
	s := sample(t)
	for _, c := range []struct {
		line string
		want api.Fault
	}{
		{"leq k x ?", api.Fault{Class: api.Lex, At: 8}},
		{"  chain 1a {b}", api.Fault{Class: api.Lex, At: 8}},
		{"check \x00", api.Fault{Class: api.Lex, At: 6}},
		{"label k {n", api.Fault{Class: api.Form, At: 8}},
		{"oops", api.Fault{Class: api.Form}},
		{"leq k x", api.Fault{Class: api.Form, At: 7}},
		{"push 2", api.Fault{Class: api.Lex, At: 5}},
		{"push a", api.Fault{Class: api.Form, At: 5}},
		{"why", api.Fault{Class: api.Form, At: 3}},
		{"chain k {a}", api.Fault{Class: api.Name, At: 6}},
		{"label n {i}", api.Fault{Class: api.Name, At: 6}},
		{"label k {n,x}", api.Fault{Class: api.Name, At: 11}},
		{"leq q #hi x", api.Fault{Class: api.Name, At: 4}},
		{"roweq k r [|n]", api.Fault{Class: api.Name, At: 12}},
		{"lacks n f", api.Fault{Class: api.Name, At: 6}},
		{" why n", api.Fault{Class: api.Name, At: 5}},
		{"row x {n}", api.Fault{Class: api.Sort, At: 4}},
		{"product n {k,x}", api.Fault{Class: api.Sort, At: 13}},
		{"leq x #hi x", api.Fault{Class: api.Sort, At: 4}},
		{"leq k x r", api.Fault{Class: api.Sort, At: 8}},
		{"lacks x f", api.Fault{Class: api.Sort, At: 6}},
		{"why r", api.Fault{Class: api.Sort, At: 4}},
		{"table n {a,b} {}", api.Fault{Class: api.Order, At: 14}},
		{"leq k x +(x,y)", api.Fault{Class: api.Definite, At: 8}},
		{" grid n {a,b,c,d,e,f,h,i,j} {}", api.Fault{Class: api.Limit, At: 1}},
		{" product n {w,w,k}", api.Fault{Class: api.Limit, At: 1}},
		{"  roweq k r [a=x,b=x,c=x,d=x,e=x,f=x,g=x,h=x,i=x,j=x,k=x,l=x,m=x,n=x,o=x,p=x,q=x]", api.Fault{Class: api.Limit, At: 2}},
	} {
		wantFault(t, s, free, c.line, c.want)
	}
}

func TestExample1(t *testing.T) {
	wantFault(t, api.Scope{}, judge.Room{Frames: 1}, "pop", api.Fault{Class: api.Frame})
	wantFault(t, api.Scope{}, judge.Room{Frames: 1}, "  pop", api.Fault{Class: api.Frame, At: 2})
}

// padded returns so many bytes of different names with commas between.
func padded(n int) string {
	var b strings.Builder
	for i := 0; ; i++ {
		name := "n" + strconv.Itoa(100+i)
		// Neither less than a name nor more than one may be left over.
		size := min(n-b.Len(), 16)
		if rest := n - b.Len() - size; rest > 0 && rest < 6 {
			size -= 6
		}
		b.WriteString(name + strings.Repeat("_", size-len(name)))
		if b.Len() == n {
			return b.String()
		}
		b.WriteByte(',')
	}
}

// filled returns so many bytes, with a list of elements of which as many are taken as there is room for, and a name that is as long as is required.
func filled(n int, before, name, between, element, after string) string {
	rest := n - len(before+name+between+after)
	list := strings.TrimSuffix(strings.Repeat(element+",", (rest+1)/(len(element)+1)), ",")
	return before + strings.Repeat(name, 1+rest-len(list)) + between + list + after
}

// sized returns a line for each number of a persistent command, with the exception of OpLacks, that has so many bytes and is its own Text.
func sized(n int) map[int]string {
	return map[int]string{
		api.OpChain:   "chain n {" + padded(n-10) + "}",
		api.OpPower:   "power n {" + padded(n-10) + "}",
		api.OpProduct: filled(n, "product ", "n", " {", "e", "}"),
		api.OpGrid:    filled(n, "grid ", "n", " {a,b} {", "a<b", "}"),
		api.OpTable:   filled(n, "table ", "n", " {a,b} {", "a<b", "}"),
		api.OpLabel:   "label k {" + padded(n-10) + "}",
		api.OpRow:     "row k {" + padded(n-8) + "}",
		api.OpLeq:     filled(n, "leq k +(", "x", ",", "x", ") x"),
		api.OpRoweq:   filled(n, "roweq p [", "f", "=#{", "a", "}] [|s]"),
	}
}

// roomy returns a scope in which the lines of sized have no fault but that of their size. It has an empty lattice, since a product of any number of these has no more than MaxWidth factors.
func roomy(t *testing.T) api.Scope {
	s := declared(t, "chain k {lo,hi}", "power p {a,b}", "row p {s}", "label k {x}", "label k {xx}")
	s.Lats = append(s.Lats, api.Lat{Name: "e"})
	return s
}

func TestBytesOfLines(t *testing.T) {
	s := roomy(t)
	for n := 1000; n < 1050; n++ {
		for op, line := range sized(n) {
			c, f := command.Read(line)
			if f != none || c.Op != op || len(line) != n || command.Text(c) != line {
				t.Fatalf("%q has %d bytes and not %d, and gives %v", line, len(line), n, f)
			}
			want := none
			if n > 1024 {
				want = api.Fault{Class: api.Limit, At: 3}
			}
			// Blanks and comments are not part of the Text.
			wide := "   " + strings.ReplaceAll(line, ",", " , ") + " -- " + strings.Repeat("so ", 500)
			wantFault(t, s, free, wide, want)
			// Here the line has fewer bytes than its Text.
			want.At = 0
			wantFault(t, s, free, strings.ReplaceAll(line, " {", "{"), want)
			check(t, s, free, line)
		}
	}
}

func TestBytesOfLinesThatDoNotStay(t *testing.T) {
	s := sample(t)
	for _, op := range []int{api.OpPush, api.OpPop, api.OpCheck, api.OpCore, api.OpWhy, api.OpBlank} {
		for _, n := range []int{1020, 1024, 1025, 5000, 20000} {
			blanks := strings.Repeat(" ", n)
			if c, _, f := judged(t, s, free, strings.ReplaceAll(each[op], " ", blanks)+blanks+"--"); f != none || c.Op != op {
				t.Errorf("%q with %d blanks gives %v", each[op], n, f)
			}
		}
	}
}

func TestBytesOfTheText(t *testing.T) {
	s := sample(t)
	lines := slices.Clone(each)
	lines = append(lines, sized(300)[api.OpTable], sized(777)[api.OpChain], sized(1024)[api.OpPower])
	for _, line := range lines {
		c, f := command.Read(line)
		if f != none {
			t.Fatal(line, f)
		}
		stays := c.Op >= api.OpChain && c.Op <= api.OpLacks
		for more := -20; more <= 20; more++ {
			room := judge.Room{Bytes: 16384 - len(line) - 1 + more, Frames: 2}
			want := none
			if stays && more > 0 {
				want = api.Fault{Class: api.Limit}
			}
			wantFault(t, s, room, line, want)
			if c.Op != api.OpBlank {
				want.At = 5 * want.Class / api.Limit
				wantFault(t, s, room, "     "+strings.ReplaceAll(line, ",", " ,\t")+" -- more", want)
			}
			check(t, s, room, line)
		}
		for _, n := range extremes {
			want := none
			if stays && n > 20000 {
				want = api.Fault{Class: api.Limit}
			}
			wantFault(t, s, judge.Room{Bytes: n, Frames: 2}, line, want)
		}
	}
}

func TestBothLimitsOfBytes(t *testing.T) {
	s := sample(t)
	line := sized(1025)[api.OpChain]
	for _, n := range append(extremes, 16384-1027, 16384-1026, 16384-1025) {
		wantFault(t, s, judge.Room{Bytes: n, Frames: 1}, " "+line, api.Fault{Class: api.Limit, At: 1})
	}
}

func TestNumberOfAssertions(t *testing.T) {
	s := sample(t)
	for op, line := range each {
		for _, n := range append(extremes, 1, 2, 62, 63, 64, 65, 66, 127, 128) {
			want := none
			if op >= api.OpLeq && op <= api.OpLacks && n >= 64 {
				want = api.Fault{Class: api.Limit}
			}
			wantFault(t, s, judge.Room{Asserts: n, Frames: 2}, line, want)
			if want != none {
				wantFault(t, s, judge.Room{Asserts: n, Frames: 2}, "\t  "+line, api.Fault{Class: api.Limit, At: 3})
			}
		}
	}
}

func TestNumberOfFrames(t *testing.T) {
	s := sample(t)
	for op, line := range each {
		for _, n := range append(extremes, 1, 2, 3, 14, 15, 16, 17, 31, 32) {
			want := none
			if op == api.OpPush && n >= 16 {
				want.Class = api.Limit
			}
			if op == api.OpPop && n <= 1 {
				want.Class = api.Frame
			}
			wantFault(t, s, judge.Room{Frames: n}, line, want)
			if want != none {
				wantFault(t, s, judge.Room{Frames: n}, " \t"+line+" ", api.Fault{Class: want.Class, At: 2})
			}
		}
	}
}

func TestClassesPrecedeLimits(t *testing.T) {
	s := sample(t)
	// Nothing can be added here.
	for _, room := range []judge.Room{{Bytes: 16384, Asserts: 64, Frames: 16}, {Bytes: math.MaxInt, Asserts: math.MaxInt, Frames: math.MaxInt}} {
		for _, c := range []struct {
			line string
			want api.Fault
		}{
			{"chain n {?}", api.Fault{Class: api.Lex, At: 9}},
			{"  push 9", api.Fault{Class: api.Lex, At: 7}},
			{"push push", api.Fault{Class: api.Form, At: 5}},
			{"leq k x", api.Fault{Class: api.Form, At: 7}},
			{"chain k {a}", api.Fault{Class: api.Name, At: 6}},
			{"lacks n f", api.Fault{Class: api.Name, At: 6}},
			{"row x {n}", api.Fault{Class: api.Sort, At: 4}},
			{"leq k x r", api.Fault{Class: api.Sort, At: 8}},
			{"roweq k [f=x,f=y] r", api.Fault{Class: api.Sort, At: 13}},
			{"table n {a,b} {}", api.Fault{Class: api.Order, At: 14}},
			{"leq k x &(x)", api.Fault{Class: api.Definite, At: 8}},
			{" grid n {a,b,c,d,e,f,h,i,j} {}", api.Fault{Class: api.Limit, At: 1}},
			{" chain n {a}", api.Fault{Class: api.Limit, At: 1}},
			{"   leq k x y", api.Fault{Class: api.Limit, At: 3}},
			{"  push", api.Fault{Class: api.Limit, At: 2}},
			{"pop", none},
			{"why q", api.Fault{Class: api.Name, At: 4}},
			{"why x", none},
			{"check", none},
			{"core", none},
			{"-- nothing", none},
		} {
			wantFault(t, s, room, c.line, c.want)
		}
	}
	for _, c := range []struct {
		line string
		want api.Fault
	}{
		{"pop !", api.Fault{Class: api.Lex, At: 4}},
		{"pop pop", api.Fault{Class: api.Form, At: 4}},
		{"pop)", api.Fault{Class: api.Form, At: 3}},
		{"pop", api.Fault{Class: api.Frame}},
	} {
		wantFault(t, s, judge.Room{Frames: 1}, c.line, c.want)
	}
}

func TestNumbersOfLiveThings(t *testing.T) {
	full := api.Scope{}
	for i := range api.MaxLats {
		full.Lats = append(full.Lats, api.Lat{Name: "k" + strconv.Itoa(i), Shape: api.Shape{Factors: []api.Factor{{Kind: api.Chain, Names: []string{"a", "b"}}}}})
	}
	for i := range api.MaxVars {
		full.Vars = append(full.Vars, api.Var{Name: "x" + strconv.Itoa(i), Kind: 1 + i%2, Lat: i % 16})
	}
	limit := api.Fault{Class: api.Limit}
	for _, c := range []struct {
		line       string
		lats, vars int
		want       api.Fault
	}{
		{"chain n {a}", 15, 64, none},
		{"chain n {a}", 16, 0, limit},
		{"product n {k0}", 15, 0, none},
		{"product n {k0}", 16, 0, limit},
		{"label k3 {n}", 16, 63, none},
		{"label k3 {n}", 16, 64, limit},
		{"row k3 {n,m}", 16, 62, none},
		{"row k3 {n,m}", 16, 63, limit},
		{"leq k14 x14 x30", 16, 64, none},
		{"lacks x63 f", 16, 64, none},
		{"why x62", 16, 64, none},
	} {
		s := api.Scope{Lats: full.Lats[:c.lats], Vars: full.Vars[:c.vars]}
		wantFault(t, s, free, c.line, c.want)
	}
}

// mixed returns a function that returns numbers below its argument, in an order that is fixed but mixed.
func mixed() func(n int) int {
	x := uint64(1)
	return func(n int) int {
		x = x*6364136223846793005 + 1442695040888963407
		return int(x>>33) % n
	}
}

// drawer draws lines and rooms.
type drawer struct{ next func(n int) int }

// one returns one of the words of l, or, in a few cases, any name.
func (d drawer) one(l string) string {
	if d.next(12) == 0 {
		l = "k p g t w x y r s u o d z lo hi a b m q bot top n i j"
	}
	words := strings.Fields(l)
	return words[d.next(len(words))]
}

// list returns a few elements with commas between.
func (d drawer) list(least int, element func() string) string {
	var l []string
	for range least + d.next(3) {
		l = append(l, element())
	}
	return strings.Join(l, ",")
}

// lattice returns a lattice, a label and a row of it.
func (d drawer) lattice() (lat, label, row string) {
	i := d.next(5)
	return strings.Fields("k p g t w")[i], strings.Fields("x u o d z")[i], strings.Fields("r s r s r")[i]
}

// constant returns a constant of the lattice.
func (d drawer) constant(lat string) string {
	atoms := func() string { return d.one("a b") }
	prins := func() string { return d.one("m q") }
	switch lat {
	case "p":
		return "{" + d.list(0, atoms) + "}"
	case "g":
		return "[" + d.list(0, func() string { return prins() + ":{" + d.list(0, prins) + "}" }) + "]"
	case "t":
		return d.one("bot a b top")
	case "w":
		return "(" + d.constant("k") + "," + d.constant("p") + "," + d.constant("g") + "," + d.constant("t") + ")"
	}
	return d.one("lo hi")
}

// atom returns a variable or a constant.
func (d drawer) atom(lat, label string) string {
	if d.next(2) == 0 {
		return d.one(label)
	}
	return "#" + d.constant(lat)
}

// label returns a label with so many levels at most.
func (d drawer) label(lat, label string, levels int) string {
	if levels == 0 || d.next(2) == 0 {
		return d.atom(lat, label)
	}
	return d.one("+ &") + "(" + d.list(1, func() string { return d.label(lat, label, levels-1) }) + ")"
}

// row returns a row.
func (d drawer) row(lat, label, row string) string {
	if d.next(2) == 0 {
		return d.one(row)
	}
	end := ""
	if d.next(2) == 0 {
		end = "|" + d.one(row)
	}
	return "[" + d.list(0, func() string { return d.one("f g h i j l c e") + "=" + d.atom(lat, label) }) + end + "]"
}

// command returns the text of a command.
func (d drawer) command() string {
	fresh := func() string { return d.one("n i j l c e") }
	pair := func() string { return d.one("n i j") + "<" + d.one("n i j") }
	lat, label, row := d.lattice()
	switch op := d.next(16); op {
	case api.OpChain, api.OpPower, api.OpLabel, api.OpRow:
		name := fresh()
		if op == api.OpLabel || op == api.OpRow {
			name = d.one("k p g t w")
		}
		return command.Word(op) + " " + name + " {" + d.list(1, fresh) + "}"
	case api.OpProduct:
		return "product " + fresh() + " {" + d.list(1, func() string { return d.one("k p g t") }) + "}"
	case api.OpGrid:
		return "grid l {n,i,j} {" + d.list(0, pair) + "}"
	case api.OpTable:
		return "table l {n,i,j} {" + d.one("n<i,n<j,i<j n<i,i<j n<i,n<j n<i,i<n") + "}"
	case api.OpLeq:
		to := d.atom(lat, label)
		if d.next(8) == 0 {
			to = d.label(lat, label, 1)
		}
		return "leq " + d.one(lat) + " " + d.label(lat, label, 3) + " " + to
	case api.OpRoweq:
		return "roweq " + d.one("k") + " " + d.row("k", "x y", "r s") + " " + d.row("k", "x y", "r s")
	case api.OpLacks:
		return "lacks " + d.one(row) + " " + fresh()
	case api.OpWhy:
		return "why " + d.one("x y u o d z")
	default:
		return command.Word(op)
	}
}

// line returns a command with blanks, in a few cases with a wrong byte or a comment.
func (d drawer) line() string {
	var b strings.Builder
	blanks := func(n int) {
		for range d.next(n) {
			b.WriteByte(" \t"[d.next(2)])
		}
	}
	blanks(4)
	for _, c := range []byte(d.command()) {
		if c != ' ' && (c < 'a' || c > 'z') {
			blanks(2)
		}
		b.WriteByte(c)
		if c < 'a' || c > 'z' {
			blanks(2)
		}
	}
	blanks(3)
	if d.next(6) == 0 {
		b.WriteString("-- " + d.one("so it is"))
	}
	line := b.String()
	if d.next(8) == 0 && line != "" {
		at := d.next(len(line))
		line = line[:at] + string(" #+&(){}[],:=|<ak0_-?\n\xff"[d.next(23)]) + line[at+d.next(2):]
	}
	return line
}

// room returns a room, which in many cases is close to its limits for the line.
func (d drawer) room(line string) judge.Room {
	near := func(limit int) int {
		if d.next(20) == 0 {
			return extremes[d.next(len(extremes))]
		}
		if d.next(3) == 0 {
			return limit - 2 + d.next(4)
		}
		return d.next(limit)
	}
	c, _ := command.Read(line)
	return judge.Room{Bytes: near(16384 - len(command.Text(c))), Asserts: near(64), Frames: near([]int{2, 16}[d.next(2)])}
}

func TestDrawnLines(t *testing.T) {
	s := sample(t)
	d := drawer{mixed()}
	var classes [9]int
	var ops [16]int
	for range 100000 {
		line := d.line()
		c, _, f := check(t, s, d.room(line), line)
		classes[f.Class]++
		if f == none {
			ops[c.Op]++
		}
	}
	if slices.Min(classes[:]) < 100 || slices.Min(ops[:]) < 100 {
		t.Errorf("the lines have too few faults of some class, or too few commands of some kind: %v %v", classes, ops)
	}
}

// spoiled returns s with a few changes, after which it may not be valid.
func spoiled(s api.Scope, d drawer) api.Scope {
	s = api.Scope{Lats: slices.Clone(s.Lats), Vars: slices.Clone(s.Vars)}
	for range 1 + d.next(4) {
		lat, v := &s.Lats[d.next(len(s.Lats))], &s.Vars[d.next(len(s.Vars))]
		switch d.next(8) {
		case 0:
			lat.Name = d.one("x k n -k")
		case 1:
			lat.Shape = api.Shape{Tuple: d.next(2) == 0}
		case 2:
			lat.Shape.Factors = append(slices.Clone(lat.Shape.Factors), api.Factor{Kind: d.next(7) - 1, Names: []string{"a", "a", "hi"}})
		case 3:
			lat.Name, v.Name = v.Name, lat.Name
		case 4:
			v.Kind = d.next(5) - 1
		case 5:
			v.Lat = d.next(9) - 2
		case 6:
			s.Lats = s.Lats[:1+d.next(len(s.Lats))]
		case 7:
			v.Name = d.one("x r n")
		}
	}
	return s
}

func TestDrawnLinesInScopesThatAreNotValid(t *testing.T) {
	base := sample(t)
	d := drawer{mixed()}
	var right, wrong int
	for range 10000 {
		s := spoiled(base, d)
		for range 4 {
			line := d.line()
			if _, _, f := check(t, s, d.room(line), line); f == none {
				right++
			} else {
				wrong++
			}
		}
	}
	if min(right, wrong) < 1000 {
		t.Errorf("%d lines are right and %d wrong", right, wrong)
	}
}

func TestAllShortLines(t *testing.T) {
	s := sample(t)
	tokens := []string{"why", "pop", "lacks", " x", " r", " q", "#", "(", ")", "?", " ", "--"}
	rooms := []judge.Room{{}, {Bytes: 16374, Frames: 2}, {Asserts: 64, Frames: 16}}
	for i := range 12 * 12 * 12 * 12 {
		var line string
		for n := i; n > 0; n /= 12 {
			line += tokens[n%12]
		}
		for _, room := range rooms {
			check(t, s, room, line)
		}
	}
}

func TestEmptyScope(t *testing.T) {
	for op, line := range each {
		want := none
		switch op {
		case api.OpProduct:
			want = api.Fault{Class: api.Name, At: 11}
		case api.OpLabel, api.OpLacks, api.OpRoweq:
			want = api.Fault{Class: api.Name, At: 6}
		case api.OpRow, api.OpLeq, api.OpWhy:
			want = api.Fault{Class: api.Name, At: 4}
		}
		wantFault(t, api.Scope{}, free, line, want)
		wantFault(t, api.Scope{Lats: []api.Lat{}, Vars: []api.Var{}}, free, line, want)
	}
}

func TestLongLines(t *testing.T) {
	s := sample(t)
	limit := api.Fault{Class: api.Limit}
	const many = 1 << 17
	names := func(sign string) string {
		var b strings.Builder
		for i := range many {
			b.WriteString("n" + strconv.Itoa(i) + sign)
		}
		return b.String() + "n"
	}
	for _, c := range []struct {
		line string
		want api.Fault
	}{
		{"chain n {" + names(",") + "}", limit},
		{"power n {" + names(",") + "}", limit},
		{"table n {" + names(",") + "} {}", limit},
		{"table n {" + names(",") + "} {n<n}", limit},
		{"table n {a,b} {a<b" + strings.Repeat(",a<b", many) + "}", limit},
		{"grid n {a,b} {a<b" + strings.Repeat(",a<b", many) + "}", limit},
		{"product n {k" + strings.Repeat(",k", many) + "}", limit},
		{"label k {" + names(",") + "}", limit},
		{"row k {" + names(",") + "}", limit},
		{"leq k +(x" + strings.Repeat(",x", many) + ") y", limit},
		{"leq k x +(x" + strings.Repeat(",x", many) + ")", api.Fault{Class: api.Definite, At: 8}},
		{"leq w +(#(hi,{a},[],top)" + strings.Repeat(",#(hi,{a},[],top)", 1<<13) + ") z", limit},
		{"roweq k r [" + names("=x,") + "=x]", limit},
		{"roweq p [f=#{a" + strings.Repeat(",a", many) + "}] [f=u]", limit},
		{strings.Repeat(" ", many) + "check" + strings.Repeat("\t", many), none},
		{strings.Repeat(" ", many) + "pop x", api.Fault{Class: api.Form, At: many + 4}},
		{strings.Repeat("a", many), api.Fault{Class: api.Lex}},
		{"leq k " + strings.Repeat("+(", many) + "x", api.Fault{Class: api.Form, At: 6 + 2*24 + 1}},
		{"--" + strings.Repeat("?", many), none},
	} {
		wantFault(t, s, free, c.line, c.want)
	}
}

func TestDepths(t *testing.T) {
	s := sample(t)
	for n := range 24 {
		line := "leq k " + strings.Repeat("+(", n) + "x" + strings.Repeat(")", n) + " y"
		if _, a, f := check(t, s, free, line); f != none || len(a.Code) != n+1 {
			t.Errorf("%q gives %v %v", line, a, f)
		}
	}
	wantFault(t, s, free, "leq k "+strings.Repeat("+(", 25)+"x"+strings.Repeat(")", 25)+" y", api.Fault{Class: api.Form, At: 6 + 2*24 + 1})
}

// P16.1: Stays.

func TestStays(t *testing.T) {
	for op := -1000; op <= 1000; op++ {
		if want := isOneOf(api.Cmd{Op: op}, "chain power product grid table label row leq roweq lacks"); judge.Stays(op) != want {
			t.Errorf("%d gives %v", op, !want)
		}
	}
	for op, line := range each {
		c, _ := command.Read(line)
		if judge.Stays(c.Op) != (op >= 1 && op <= 10) {
			t.Errorf("%q gives %v", line, judge.Stays(c.Op))
		}
	}
	for i := range 64 {
		for op := range 16 {
			// These numbers are those of commands in their last bits only.
			for _, far := range []int{op + 1<<i, op - 1<<i, ^op ^ 1<<i} {
				if (far < 1 || far > 10) && judge.Stays(far) {
					t.Errorf("%d stays", far)
				}
			}
		}
	}
	for _, op := range extremes {
		if judge.Stays(op) {
			t.Errorf("%d stays", op)
		}
	}
}

// P16.2: laws.

// shiftedNode returns n with n more bytes ahead of it.
func shiftedNode(node api.Node, n int) api.Node {
	node = plainNode(node)
	if node.Kind != 0 {
		node.At += n
	}
	for i := range node.Names {
		node.Names[i].At += n
	}
	for i, kid := range node.Kids {
		node.Kids[i] = shiftedNode(kid, n)
	}
	return node
}

// shifted returns c with n more bytes ahead of all its parts.
func shifted(c api.Cmd, n int) api.Cmd {
	c = plain(c)
	if c.Op == api.OpBlank {
		return c
	}
	c.At += n
	if c.Name.Text != "" {
		c.Name.At += n
	}
	if c.Op == api.OpGrid || c.Op == api.OpTable {
		c.PairsAt += n
	}
	for i := range c.Names {
		c.Names[i].At += n
	}
	for i := range c.Pairs {
		c.Pairs[i][0].At += n
		c.Pairs[i][1].At += n
	}
	c.Left, c.Right = shiftedNode(c.Left, n), shiftedNode(c.Right, n)
	return c
}

// laws fails unless the Text of the line's command is judged like the line, and leading blanks only increase the offsets.
func laws(t *testing.T, s api.Scope, room judge.Room, line, blanks string) {
	t.Helper()
	c, a, f := judged(t, s, room, line)
	d, b, g := judged(t, s, room, blanks+line)
	wanted := f
	if f != none {
		wanted.At += len(blanks)
	}
	if g != wanted || !reflect.DeepEqual(d, shifted(c, len(blanks))) || !reflect.DeepEqual(a, b) {
		t.Fatalf("%q after %d blanks gives %v %v %v and not %v %v %v", line, len(blanks), d, b, g, c, a, wanted)
	}
	read, wrong := command.Read(line)
	if wrong != none {
		return
	}
	d, b, g = judged(t, s, room, command.Text(read))
	if g.Class != f.Class || !command.Same(c, d) || !reflect.DeepEqual(a, b) {
		t.Fatalf("%q gives %v %v %v, its Text %v %v %v", line, c, a, f, d, b, g)
	}
}

func TestLaws(t *testing.T) {
	s := sample(t)
	d := drawer{mixed()}
	for range 40000 {
		line := d.line()
		blanks := strings.Repeat(" ", d.next(4)) + strings.Repeat("\t", d.next(3)) + strings.Repeat(" ", d.next(2))
		laws(t, s, d.room(line), line, blanks)
	}
	for _, line := range each {
		for _, room := range []judge.Room{{}, free, {Bytes: 16384 - len(line)}, {Bytes: 16383 - len(line)}, {Asserts: 64}, {Frames: 16}, {Frames: 1}} {
			laws(t, s, room, line, strings.Repeat(" \t", 1000))
		}
	}
}

func TestLawsAtTheLimits(t *testing.T) {
	s := roomy(t)
	for n := 1020; n < 1030; n++ {
		for _, line := range sized(n) {
			for bytes := 16384 - 1026; bytes < 16384-1020; bytes++ {
				laws(t, s, judge.Room{Bytes: bytes}, strings.ReplaceAll(line, ",", " ,\t"), " ")
			}
		}
	}
}

// Rules that hold everywhere: memory, and what a call keeps.

// span is where the memory of a list begins and ends, with what lies beyond its length.
type span struct{ begin, end uintptr }

func spanOf[T any](l []T) span {
	var one T
	begin := uintptr(unsafe.Pointer(unsafe.SliceData(l)))
	return span{begin, begin + uintptr(cap(l))*unsafe.Sizeof(one)}
}

func spansOfNode(n api.Node) []span {
	l := []span{spanOf(n.Names), spanOf(n.Kids)}
	for _, kid := range n.Kids {
		l = append(l, spansOfNode(kid)...)
	}
	return l
}

func spansOfScope(s api.Scope) []span {
	l := []span{spanOf(s.Lats), spanOf(s.Vars)}
	for _, lat := range s.Lats {
		l = append(l, spanOf(lat.Shape.Factors))
		for _, f := range lat.Shape.Factors {
			l = append(l, spanOf(f.Names))
		}
	}
	return l
}

func spansOfResults(c api.Cmd, a api.Assert) []span {
	l := []span{spanOf(c.Names), spanOf(c.Pairs), spanOf(a.Code), spanOf(a.A.Fields), spanOf(a.B.Fields)}
	return slices.Concat(l, spansOfNode(c.Left), spansOfNode(c.Right))
}

func TestResultsShareNoMemory(t *testing.T) {
	s := sample(t)
	for _, line := range append(each, "leq w +(#(hi,{a,b},[m:{q}],top),z,&(z)) z", "roweq k [f=x,g=#hi|r] [f=x,g=#hi|r]", "oops", "chain k {a}") {
		c, a, _ := judge.Line(s, free, line)
		d, b, _ := judge.Line(s, free, line)
		l := slices.Concat(spansOfScope(s), spansOfResults(c, a), spansOfResults(d, b))
		for i, m := range l {
			for _, n := range l[:i] {
				if m.begin < n.end && n.begin < m.end {
					t.Fatalf("%q: two lists share memory", line)
				}
			}
		}
	}
}

func TestArgumentsAreOnlyRead(t *testing.T) {
	s, same := sample(t), sample(t)
	// Beyond the lengths stand things that would make a difference.
	s.Lats = append(slices.Clone(s.Lats), api.Lat{Name: "n", Shape: api.Shape{Factors: []api.Factor{{Kind: 9}}}})
	s.Vars = append(slices.Clone(s.Vars), api.Var{Name: "i", Kind: 7, Lat: 9})
	lats, vars := s.Lats, s.Vars
	s.Lats, s.Vars = s.Lats[:5], s.Vars[:8]
	for range 2 {
		for op, line := range each {
			if c, _, f := judge.Line(s, free, line); f != none || c.Op != op {
				t.Errorf("%q gives %v %v", line, c, f)
			}
			if !reflect.DeepEqual(s, same) {
				t.Fatalf("%q changes the scope", line)
			}
		}
	}
	if lats[5].Name != "n" || lats[5].Shape.Factors[0].Kind != 9 || vars[8] != (api.Var{Name: "i", Kind: 7, Lat: 9}) {
		t.Error("what is beyond the length is changed")
	}
}

func TestNothingIsKept(t *testing.T) {
	s := sample(t)
	line := "roweq k [f=x,g=#hi|r] [h=y|s]"
	c, a, _ := judge.Line(s, free, line)
	c, a = plain(c), plainAssert(a)
	for _, other := range each {
		d, b, _ := judge.Line(s, free, other)
		for i := range d.Names {
			d.Names[i].Text = "changed"
		}
		for i := range b.Code {
			b.Code[i] = api.Ins{Op: 9}
		}
		for i := range b.A.Fields {
			b.A.Fields[i] = api.Field{Name: "changed"}
		}
		judge.Line(api.Scope{}, judge.Room{Bytes: math.MaxInt, Asserts: 64}, other)
	}
	d, b, f := judged(t, s, free, line)
	if f != none || !reflect.DeepEqual(c, d) || !reflect.DeepEqual(a, b) {
		t.Errorf("%q gives %v %v %v after other calls", line, d, b, f)
	}
}
