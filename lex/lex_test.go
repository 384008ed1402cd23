package lex_test

import (
	"reflect"
	"regexp"
	"slices"
	"strings"
	"testing"
	"unsafe"

	"clearance/api"
	"clearance/lex"
	"clearance/name"
)

const signs = "#+&(){}[],:=|<"

// piece matches what a line may begin with: a run, a sign, blanks, a comment, or anything else.
var piece = regexp.MustCompile(`(?s)^(?:([a-z0-9_]+)|([#+&(){}\[\],:=|<])|([ \t]+)|(--.*)|(.))`)

// proper matches what a name is.
var proper = regexp.MustCompile(`^[a-z][a-z0-9_]{0,15}$`)

// read cuts piece after piece off the line, as the package does not.
func read(line string) ([]api.Tok, api.Fault) {
	var l []api.Tok
	for at := 0; at < len(line); {
		m := piece.FindStringSubmatch(line[at:])
		switch {
		case m[1] != "" && proper.MatchString(m[1]):
			l = append(l, api.Tok{Kind: 97, Text: m[1], At: at})
		case m[2] != "":
			l = append(l, api.Tok{Kind: m[2][0], Text: m[2], At: at})
		case m[1] != "" || m[5] != "":
			return nil, api.Fault{Class: 1, At: at}
		}
		at += len(m[0])
	}
	return l, api.Fault{}
}

// check compares Read with read for one line.
func check(t *testing.T, line string) {
	t.Helper()
	want, fault := read(line)
	got, f := lex.Read(line)
	if f != fault || !slices.Equal(got, want) {
		t.Errorf("Read(%q) = %v, %v, want %v, %v", line, got, f, want, fault)
	}
}

// each calls f with every string of up to n of the letters.
func each(letters string, n int, f func(s string)) {
	level := []string{""}
	for range n + 1 {
		var longer []string
		for _, s := range level {
			f(s)
			for i := range len(letters) {
				longer = append(longer, s+letters[i:i+1])
			}
		}
		level = longer
	}
}

// mixed returns a function that returns numbers below its argument, in an order that is fixed but mixed.
func mixed() func(n int) int {
	x := uint64(1)
	return func(n int) int {
		x = x*6364136223846793005 + 1442695040888963407
		return int(x>>33) % n
	}
}

// drawn returns n right tokens with any offsets, as next draws them.
func drawn(n int, next func(n int) int) []api.Tok {
	const first, inner = "abcmyz", "abmz059_"
	l := make([]api.Tok, n)
	for i := range l {
		k := next(2 * len(signs))
		if k < len(signs) {
			l[i] = api.Tok{Kind: signs[k], Text: signs[k : k+1], At: next(99) - 50}
			continue
		}
		b := []byte{first[next(len(first))]}
		for range next(api.MaxName) {
			b = append(b, inner[next(len(inner))])
		}
		l[i] = api.Tok{Kind: 97, Text: string(b), At: next(99) - 50}
	}
	return l
}

// P8.1: Read.

func TestReadExample(t *testing.T) {
	l, f := lex.Read("leq k x #hi -- why")
	want := []api.Tok{{Kind: 97, Text: "leq"}, {Kind: 97, Text: "k", At: 4}, {Kind: 97, Text: "x", At: 6}, {Kind: 35, Text: "#", At: 8}, {Kind: 97, Text: "hi", At: 9}}
	if f != (api.Fault{}) || !slices.Equal(l, want) {
		t.Errorf("the example is read as %v, %v", l, f)
	}
	if got := lex.Text(l); got != "leq k x#hi" {
		t.Errorf("the Text of the example is %q", got)
	}
}

func TestReadAllSigns(t *testing.T) {
	want := []api.Tok{
		{Kind: 35, Text: "#", At: 0}, {Kind: 43, Text: "+", At: 1}, {Kind: 38, Text: "&", At: 2}, {Kind: 40, Text: "(", At: 3}, {Kind: 41, Text: ")", At: 4},
		{Kind: 123, Text: "{", At: 5}, {Kind: 125, Text: "}", At: 6}, {Kind: 91, Text: "[", At: 7}, {Kind: 93, Text: "]", At: 8},
		{Kind: 44, Text: ",", At: 9}, {Kind: 58, Text: ":", At: 10}, {Kind: 61, Text: "=", At: 11}, {Kind: 124, Text: "|", At: 12}, {Kind: 60, Text: "<", At: 13},
	}
	if l, f := lex.Read(signs); f != (api.Fault{}) || !slices.Equal(l, want) {
		t.Errorf("the signs are read as %v, %v", l, f)
	}
}

func TestReadWithoutTokens(t *testing.T) {
	for _, line := range []string{"", " ", "\t", " \t\t  ", "--", "---", "-----", " -- ", "\t--a b", "--\x00\n\r\x80\xff-A1x", "-- -", "--\n1"} {
		if l, f := lex.Read(line); len(l) != 0 || f != (api.Fault{}) {
			t.Errorf("Read(%q) = %v, %v", line, l, f)
		}
	}
}

func TestReadTexts(t *testing.T) {
	for _, c := range []struct{ line, want string }{
		{"a", "a"},
		{"a b", "a b"},
		{"a\tb", "a b"},
		{"  a \t b  ", "a b"},
		{"a--b", "a"},
		{"a --", "a"},
		{"a---", "a"},
		{"a -- b -- c", "a"},
		{"#--#", "#"},
		{"a--A", "a"},
		{"a--\nb", "a"},
		{"x_1:{a}", "x_1 : { a }"},
		{"a<b", "a < b"},
		{"(x)(y)", "( x ) ( y )"},
		{"##", "# #"},
		{"a0123456789_b_c9", "a0123456789_b_c9"},
	} {
		l, f := lex.Read(c.line)
		var texts []string
		for _, k := range l {
			texts = append(texts, k.Text)
		}
		if got := strings.Join(texts, " "); got != c.want || f != (api.Fault{}) {
			t.Errorf("Read(%q) has the texts %q and %v, want %q", c.line, got, f, c.want)
		}
	}
}

func TestReadFaults(t *testing.T) {
	long := strings.Repeat("a", api.MaxName+1)
	for _, c := range []struct {
		line string
		at   int
	}{
		{"-", 0},
		{"- -", 0},
		{"-a", 0},
		{"a-", 1},
		{"a-b", 1},
		{"a -b", 2},
		{"a - - b", 2},
		{"-#-", 0},
		{"#- -", 1},
		{"1x", 0},
		{"ab 1x", 3},
		{"_", 0},
		{"a _b", 2},
		{"a 0 b", 2},
		{"#1", 1},
		{long, 0},
		{"x " + long + " A", 2},
		{"{" + long, 1},
		{"A", 0},
		{"aB", 1},
		{"a\n", 1},
		{"a\rb", 1},
		{"\x00", 0},
		{"a b\x00", 3},
		{"a\vb", 1},
		{"a\fb", 1},
		{"\x80", 0},
		{"a\xff", 1},
		{"aé", 1},
		{"é", 0},
		{"a\u00a0b", 1},
		{"ab \u2014 x", 3},
		{"a>b", 1},
		{"x*y", 1},
		{"a.b", 1},
		{"a;b", 1},
		{"\"a\"", 0},
		{"1x A", 0},
		{"A 1x", 0},
		{"a 1x A -", 2},
		{"a A 1x -", 2},
		{"a - 1x A", 2},
		{"1x -- b", 0},
		{"A--", 0},
		{"a 1--", 2},
		{"1a" + strings.Repeat("a", 100), 0},
		{"a " + strings.Repeat("é", 9) + " 1", 2},
	} {
		if l, f := lex.Read(c.line); l != nil || f != (api.Fault{Class: 1, At: c.at}) {
			t.Errorf("Read(%q) = %v, %v, want a fault at %d", c.line, l, f, c.at)
		}
	}
}

// Each byte is tried alone, beside each other byte, and before and after what a line may have.
func TestReadEachByte(t *testing.T) {
	for i := range 256 {
		c := string([]byte{byte(i)})
		for _, line := range []string{c, "a" + c, c + "a", "a" + c + "a", "a " + c + " a", "#" + c + "#", "-" + c, "--" + c, c + "--", "a--" + c, c + "1", "1" + c} {
			check(t, line)
		}
		for j := range 256 {
			check(t, c+string([]byte{byte(j)}))
		}
	}
}

func TestReadShortLines(t *testing.T) {
	each("a1_- \t#A\n", 5, func(s string) { check(t, s) })
	each("az09_-{ ", 5, func(s string) { check(t, s) })
	each("a- ", 9, func(s string) { check(t, s) })
}

func TestReadMixedLines(t *testing.T) {
	next := mixed()
	parts := []string{"a", "bc", "x_1", "1", "_", " ", "  ", "\t", "-", "--", "#", "{", "}", "|", "<", "A", "é", "\n", strings.Repeat("m", 15), strings.Repeat("m", 16)}
	for range 20000 {
		var b strings.Builder
		for range next(12) {
			// The parts that can give no fault are taken more often.
			k := next(4 * len(parts))
			if k >= len(parts) {
				k = k % 3 * 5
			}
			b.WriteString(parts[k])
		}
		check(t, b.String())
	}
}

func TestReadRunsAtTheLimit(t *testing.T) {
	for n := 1; n <= 3*api.MaxName; n++ {
		for _, before := range []string{"", " ", "b ", "#", "b#"} {
			for _, after := range []string{"", " ", "\t", "#", "--", " c", "A", "-"} {
				check(t, before+strings.Repeat("a", n)+after)
				check(t, before+"z"+strings.Repeat("9", n-1)+after)
				check(t, before+"z"+strings.Repeat("_", n-1)+after)
				check(t, before+"9"+strings.Repeat("a", n-1)+after)
			}
		}
	}
	for _, n := range []int{256, 257, 272, 1 << 16, 1<<16 + 16, 1 << 24} {
		if l, f := lex.Read("a " + strings.Repeat("b", n)); l != nil || f != (api.Fault{Class: 1, At: 2}) {
			t.Errorf("a run of %d bytes is read as %d tokens, %v", n, len(l), f)
		}
	}
}

// A line may have more than api.MaxLine bytes: this layer has no limit.
func TestReadLongLines(t *testing.T) {
	const n = 1 << 18
	for _, c := range []struct {
		line      string
		each, say int
	}{
		{strings.Repeat("ab ", n), 3, 1},
		{strings.Repeat("(", n), 1, 1},
		{strings.Repeat(" ", n), 1, 0},
		{strings.Repeat("-", n), 1, 0},
	} {
		l, f := lex.Read(c.line)
		if len(l) != n*c.say || f != (api.Fault{}) {
			t.Fatalf("Read(%q..) has %d tokens, %v", c.line[:9], len(l), f)
		}
		for i, k := range l {
			if k.At != i*c.each {
				t.Fatalf("token %d of %q.. stands at %d", i, c.line[:9], k.At)
			}
		}
		if l, f := lex.Read(c.line + "\n"); c.line[0] != '-' && (l != nil || f != (api.Fault{Class: 1, At: len(c.line)})) {
			t.Errorf("Read(%q..) with a fault at its end has %d tokens, %v", c.line[:9], len(l), f)
		}
	}
	if l, f := lex.Read(strings.Repeat(" ", n) + "x"); len(l) != 1 || l[0].At != n || f != (api.Fault{}) {
		t.Errorf("the name after %d blanks is read as %v, %v", n, l, f)
	}
}

func TestReadSharesNoMemory(t *testing.T) {
	line := strings.Repeat("leq k x #hi ", 9)
	begin := uintptr(unsafe.Pointer(unsafe.StringData(line)))
	l, _ := lex.Read(line)
	for _, k := range l {
		if p := uintptr(unsafe.Pointer(unsafe.StringData(k.Text))); p >= begin && p < begin+uintptr(len(line)) {
			t.Fatalf("the text of the token at %d is a piece of the line", k.At)
		}
	}
	m, _ := lex.Read(line)
	clear(l)
	if want, _ := read(line); !slices.Equal(m, want) {
		t.Error("two results share memory")
	}
	if n, _ := lex.Read(line); !slices.Equal(n, m) {
		t.Error("a result is kept")
	}
}

// P8.2: Right, Text, Same.

func TestRight(t *testing.T) {
	texts := []string{"", "a", "ab", "x_1", "1x", "_", "A", "a b", " ", "a ", "#a", "##", "--", "-", "é", "\xff", "aé", strings.Repeat("z", 15), strings.Repeat("z", 16), strings.Repeat("z", 17), strings.Repeat("z", 1000)}
	for i := range 256 {
		texts = append(texts, string([]byte{byte(i)}), string(rune(i)), string([]byte{byte(i)})+" ", "a"+string([]byte{byte(i)}))
	}
	for kind := range 256 {
		for _, s := range texts {
			want := kind == 97 && proper.MatchString(s) || strings.IndexByte(signs, byte(kind)) >= 0 && s == string([]byte{byte(kind)})
			for _, at := range []int{0, -1, 7, 1 << 40} {
				if got := lex.Right(api.Tok{Kind: byte(kind), Text: s, At: at}); got != want {
					t.Errorf("Right of the kind %d, the text %q and the offset %d = %v", kind, s, at, got)
				}
			}
		}
	}
}

func TestRightExamples(t *testing.T) {
	for _, c := range []struct {
		tok  api.Tok
		want bool
	}{
		{api.Tok{}, false},
		{api.Tok{Kind: 'a', Text: "a"}, true},
		{api.Tok{Kind: 'a', Text: "leq", At: 4}, true},
		{api.Tok{Kind: 'l', Text: "leq"}, false},
		{api.Tok{Kind: 'b', Text: "b"}, false},
		{api.Tok{Kind: 'a'}, false},
		{api.Tok{Kind: 'a', Text: "#"}, false},
		{api.Tok{Kind: '#', Text: "#"}, true},
		{api.Tok{Kind: '#', Text: "+"}, false},
		{api.Tok{Kind: '#', Text: "##"}, false},
		{api.Tok{Kind: '#', Text: "# "}, false},
		{api.Tok{Kind: '#'}, false},
		{api.Tok{Kind: '#', Text: "a"}, false},
		{api.Tok{Kind: '-', Text: "-"}, false},
		{api.Tok{Kind: '-', Text: "--"}, false},
		{api.Tok{Kind: ' ', Text: " "}, false},
		{api.Tok{Kind: '>', Text: ">"}, false},
		{api.Tok{Kind: 0, Text: "\x00"}, false},
	} {
		if got := lex.Right(c.tok); got != c.want {
			t.Errorf("Right(%v) = %v", c.tok, got)
		}
	}
}

func TestText(t *testing.T) {
	for _, c := range []struct {
		l    []api.Tok
		want string
	}{
		{nil, ""},
		{[]api.Tok{}, ""},
		{[]api.Tok{{}}, ""},
		{[]api.Tok{{Kind: 'a', Text: "a"}}, "a"},
		{[]api.Tok{{Kind: 'a', Text: "a"}, {Kind: 'a', Text: "b", At: 1}}, "a b"},
		{[]api.Tok{{Kind: 'a', Text: "a", At: 50}, {Kind: 'a', Text: "b", At: 10}, {Kind: 'a', Text: "c", At: -3}}, "a b c"},
		{[]api.Tok{{Kind: 'a', Text: "x"}, {Kind: '#', Text: "#"}, {Kind: 'a', Text: "hi"}}, "x#hi"},
		{[]api.Tok{{Kind: '#', Text: "#"}, {Kind: '#', Text: "#"}}, "##"},
		{[]api.Tok{{Kind: '#', Text: "#"}, {Kind: 'a', Text: "x"}, {Kind: 'a', Text: "y"}, {Kind: '|', Text: "|"}}, "#x y|"},
		{[]api.Tok{{Kind: '[', Text: "["}, {Kind: 'a', Text: "f"}, {Kind: '=', Text: "="}, {Kind: 'a', Text: "x"}, {Kind: ']', Text: "]"}}, "[f=x]"},
		// Tokens that no line has: only their Kinds count for the space.
		{[]api.Tok{{Kind: 'a'}, {Kind: 'a'}}, " "},
		{[]api.Tok{{Kind: 'a', Text: ""}, {Kind: 'a', Text: "#"}}, " #"},
		{[]api.Tok{{Kind: 'a', Text: "a"}, {Kind: 'b', Text: "b"}}, "ab"},
		{[]api.Tok{{Kind: 'b', Text: "b"}, {Kind: 'a', Text: "a"}}, "ba"},
		{[]api.Tok{{Kind: 'b', Text: "b"}, {Kind: 'b', Text: "c"}}, "bc"},
		{[]api.Tok{{Kind: 'a', Text: "a"}, {}, {Kind: 'a', Text: "b"}}, "ab"},
		{[]api.Tok{{Kind: '#', Text: "+\n"}, {Kind: 7, Text: "\xff "}, {Kind: 'a', Text: "A b"}, {Kind: 'a', Text: "\x00"}}, "+\n\xff A b \x00"},
	} {
		if got := lex.Text(c.l); got != c.want {
			t.Errorf("Text(%v) = %q, want %q", c.l, got, c.want)
		}
	}
}

func TestTextOfManyTokens(t *testing.T) {
	const n = 1 << 18
	l := slices.Repeat([]api.Tok{{Kind: 'a', Text: "ab"}}, n)
	if got := lex.Text(l); got != strings.Repeat("ab ", n-1)+"ab" {
		t.Errorf("the Text of %d names has %d bytes", n, len(got))
	}
	one := strings.Clone("some text")
	if got := lex.Text([]api.Tok{{Kind: 'a', Text: one}}); got != one || unsafe.StringData(got) == unsafe.StringData(one) {
		t.Error("the Text of one token is the token's own")
	}
}

func TestSame(t *testing.T) {
	a, b, s := api.Tok{Kind: 'a', Text: "a"}, api.Tok{Kind: 'a', Text: "b"}, api.Tok{Kind: '#', Text: "#"}
	far, big, kind := a, a, a
	far.At, big.Text, kind.Kind = 9, "aa", 'b'
	for _, c := range []struct {
		a, b []api.Tok
		want bool
	}{
		{nil, nil, true},
		{nil, []api.Tok{}, true},
		{[]api.Tok{}, nil, true},
		{nil, []api.Tok{{}}, false},
		{[]api.Tok{{}}, nil, false},
		{[]api.Tok{{}}, []api.Tok{{At: 3}}, true},
		{[]api.Tok{a}, []api.Tok{a}, true},
		{[]api.Tok{a}, []api.Tok{far}, true},
		{[]api.Tok{a}, []api.Tok{b}, false},
		{[]api.Tok{a}, []api.Tok{big}, false},
		{[]api.Tok{a}, []api.Tok{kind}, false},
		{[]api.Tok{a}, []api.Tok{s}, false},
		{[]api.Tok{a, b, s}, []api.Tok{far, b, s}, true},
		{[]api.Tok{a, b, s}, []api.Tok{a, s, b}, false},
		{[]api.Tok{a, b, s}, []api.Tok{a, b}, false},
		{[]api.Tok{a, b}, []api.Tok{a, b, s}, false},
		{[]api.Tok{a, b, s}, []api.Tok{a, b, {Kind: '#', Text: "+"}}, false},
		{[]api.Tok{a, b, s}, []api.Tok{kind, b, s}, false},
		{[]api.Tok{a, b}, []api.Tok{{Kind: 'a', Text: "a b"}}, false},
		{[]api.Tok{a, a}, []api.Tok{a}, false},
	} {
		if got := lex.Same(c.a, c.b); got != c.want {
			t.Errorf("Same(%v, %v) = %v", c.a, c.b, got)
		}
	}
}

func TestSameOfMixedLists(t *testing.T) {
	next := mixed()
	for range 2000 {
		a := drawn(1+next(6), next)
		b := slices.Clone(a)
		for i := range b {
			b[i].At = next(99) - 50
		}
		if !lex.Same(a, b) || !lex.Same(b, a) {
			t.Fatalf("Same(%v, %v) = false", a, b)
		}
		i := next(len(b))
		if next(2) == 0 {
			b[i].Kind ^= 1 << next(8)
		} else {
			b[i].Text += "x"
		}
		if lex.Same(a, b) || lex.Same(b, a) {
			t.Fatalf("Same(%v, %v) = true", a, b)
		}
	}
}

// No call modifies its lists or reads what lies beyond them.
func TestListsAreOnlyRead(t *testing.T) {
	whole := []api.Tok{{Kind: 'a', Text: "a", At: 1}, {Kind: 'a', Text: "b", At: 2}, {Kind: 'a', Text: "c", At: 3}, {Kind: '#', Text: "#", At: 4}}
	before := slices.Clone(whole)
	other := []api.Tok{{Kind: 'a', Text: "a"}, {Kind: 'a', Text: "b"}, {Kind: 'a', Text: "z"}}
	if got := lex.Text(whole[:2]); got != "a b" {
		t.Errorf("Text = %q", got)
	}
	if got := lex.Text(whole[1:2]); got != "b" {
		t.Errorf("Text = %q", got)
	}
	if !lex.Same(whole[:2], other[:2]) || lex.Same(whole[:3], other[:3]) {
		t.Error("Same reads beyond the lists, or not all of them")
	}
	if !reflect.DeepEqual(whole, before) {
		t.Errorf("the list has become %v", whole)
	}
}

// P8.3: the laws.

func TestTokensStandAtTheirOffsets(t *testing.T) {
	law := func(line string) {
		l, f := lex.Read(line)
		if f != (api.Fault{}) {
			if l != nil || f.Class != api.Lex || f.At < 0 || f.At >= len(line) {
				t.Errorf("Read(%q) = %v, %v", line, l, f)
			}
			return
		}
		at := 0
		for _, k := range l {
			if k.At < at || strings.Trim(line[at:k.At], " \t") != "" || !strings.HasPrefix(line[k.At:], k.Text) || k.Text == "" || !lex.Right(k) {
				t.Errorf("Read(%q) has %v after %d", line, k, at)
				return
			}
			at = k.At + len(k.Text)
		}
		if rest := strings.TrimLeft(line[at:], " \t"); rest != "" && !strings.HasPrefix(rest, "--") {
			t.Errorf("Read(%q) leaves %q", line, rest)
		}
	}
	each("ab1 -#", 6, law)
	each("z_ \t-{A", 5, law)
}

func TestTextIsReadAgain(t *testing.T) {
	law := func(l []api.Tok) {
		for _, k := range l {
			if !lex.Right(k) {
				t.Fatalf("%v is not right", k)
			}
		}
		s := lex.Text(l)
		got, f := lex.Read(s)
		if f != (api.Fault{}) || !lex.Same(got, l) || lex.Text(got) != s {
			t.Fatalf("the Text of %v is %q, and is read as %v, %v", l, s, got, f)
		}
	}
	next := mixed()
	for range 5000 {
		law(drawn(next(20), next))
	}
	for _, c := range signs {
		for _, d := range signs {
			x, y := api.Tok{Kind: byte(c), Text: string(c)}, api.Tok{Kind: byte(d), Text: string(d)}
			a := api.Tok{Kind: 'a', Text: "a"}
			law([]api.Tok{x, y})
			law([]api.Tok{a, x, y, a, a})
			law([]api.Tok{x, a, y})
		}
	}
	each("a1_ #-", 6, func(line string) {
		if l, f := lex.Read(line); f == (api.Fault{}) {
			law(l)
		}
	})
}

// A run is a token exactly if it is a name.
func TestTokensAreNames(t *testing.T) {
	each("az0_", 5, func(s string) {
		l, f := lex.Read(s)
		if s != "" && (f == (api.Fault{})) != name.Right(s) {
			t.Errorf("Read(%q) = %v, %v", s, l, f)
		}
	})
}
