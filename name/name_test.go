package name_test

import (
	"slices"
	"strconv"
	"strings"
	"testing"

	"clearance/api"
	"clearance/name"
)

const (
	letters = "abcdefghijklmnopqrstuvwxyz"
	digits  = "0123456789"
)

// texts returns strings that differ in every way that matters to the order: in a byte, in length, above 127, at a zero byte.
func texts() []string {
	l := []string{
		"", "\x00", "\x00\x00", "\x00a", "a", "a\x00", "a\x00b", "aa", "ab", "abc", "ab_", "ab0", "b", "ba", "z", "z9",
		"A", "Ab", "Z", "0", "9", "9a", "_", "_a", " ", " a", "a ", "\n", "~", "\x7f", "\x80", "\xff", "\xffa", "a\x7f", "a\x80", "a\xff",
		"é", "aé", "ä", "ａ", "日本", "\xed\xa0\x80", "a\xed\xa0\x80",
	}
	for n := api.MaxName - 1; n <= api.MaxName+1; n++ {
		l = append(l, strings.Repeat("a", n), strings.Repeat("a", n-1)+"b", strings.Repeat("a", n-1)+"\xff")
	}
	long := strings.Repeat("xyz", 100000)
	return append(l, long, long+"a", long+"b", long[1:])
}

// shuffled returns n strings, of which the different ones are as many as kinds, in an order that is fixed but mixed.
func shuffled(n, kinds int) []string {
	l := make([]string, n)
	x := uint64(1)
	for i := range l {
		x = x*6364136223846793005 + 1442695040888963407
		l[i] = "n" + strconv.Itoa(int(x>>33)%kinds)
	}
	return l
}

// numbered returns n different strings.
func numbered(n int) []string {
	l := make([]string, n)
	for i := range l {
		l[i] = "n" + strconv.Itoa(i)
	}
	return l
}

// before compares bytes as numbers, one after another, which the package does not do.
func before(a, b string) bool {
	for i := 0; i < len(a) && i < len(b); i++ {
		if a[i] != b[i] {
			return int(a[i]) < int(b[i])
		}
	}
	return len(a) < len(b)
}

// P2.1: Right, Less.

func TestRight(t *testing.T) {
	for _, c := range []struct {
		s    string
		want bool
	}{
		{"a", true},
		{"z", true},
		{"x_1", true},
		{"a_", true},
		{"a__9_z", true},
		{"a0123456789", true},
		{letters[:api.MaxName], true},
		{letters[len(letters)-api.MaxName:], true},
		{"", false},
		{"1x", false},
		{"_x", false},
		{"0", false},
		{"_", false},
		{"A", false},
		{"aB", false},
		{"a b", false},
		{" a", false},
		{"a ", false},
		{"a-b", false},
		{"a\n", false},
		{"\x00", false},
		{"\x00a", false},
		{"a\x00", false},
		{"a\x80", false},
		{"\xff", false},
		{"aé", false},
		{"é", false},
		{"ａ", false},
		{letters[:api.MaxName+1], false},
		{letters, false},
	} {
		if got := name.Right(c.s); got != c.want {
			t.Errorf("Right(%q) = %v", c.s, got)
		}
	}
}

// Each byte is tried at each place of strings of each length, up to one more than a name may have.
func TestRightAtEachPlace(t *testing.T) {
	for n := 1; n <= api.MaxName+1; n++ {
		for i := range n {
			for c := range 256 {
				b := []byte(strings.Repeat("m", n))
				b[i] = byte(c)
				may := letters
				if i > 0 {
					may += digits + "_"
				}
				want := n <= api.MaxName && strings.IndexByte(may, byte(c)) >= 0
				if got := name.Right(string(b)); got != want {
					t.Errorf("Right(%q) = %v", b, got)
				}
			}
		}
	}
}

func TestRightAtTheLimits(t *testing.T) {
	for n := range 3 * api.MaxName {
		want := n >= 1 && n <= api.MaxName
		for _, s := range []string{strings.Repeat("a", n), strings.Repeat("z", n)} {
			if got := name.Right(s); got != want {
				t.Errorf("Right(%q) = %v", s, got)
			}
		}
	}
	// The first and the last byte of such a string count as well as those between them.
	for _, n := range []int{api.MaxName + 1, 256, 257, 1 << 16, 1<<16 + 1, 1 << 24} {
		if name.Right(strings.Repeat("a", n)) {
			t.Errorf("Right holds for %d bytes", n)
		}
	}
	if s := "a" + strings.Repeat("é", (api.MaxName-1)/2); name.Right(s) {
		t.Errorf("Right(%q) = true", s)
	}
}

func TestLess(t *testing.T) {
	for _, c := range []struct {
		a, b string
		want bool
	}{
		{"", "", false},
		{"", "\x00", true},
		{"\x00", "", false},
		{"a", "a", false},
		{"a", "b", true},
		{"b", "a", false},
		{"a", "ab", true},
		{"ab", "a", false},
		{"ab", "b", true},
		{"b", "ab", false},
		{"a", "a\x00", true},
		{"a\x00", "a0", true},
		{"a9", "a_", true},
		{"a_", "aa", true},
		{"a10", "a9", true},
		{"Z", "a", true},
		{"\x7f", "\x80", true},
		{"\x80", "\x7f", false},
		{"z", "é", true},
		{"\xff", "a", false},
		{"\xed\xa0\x80", "\xed\xa0\x81", true},
		{"\xfe", "\xff", true},
	} {
		if got := name.Less(c.a, c.b); got != c.want {
			t.Errorf("Less(%q, %q) = %v", c.a, c.b, got)
		}
	}
}

func TestLessOfAnyStrings(t *testing.T) {
	l := texts()
	for i, a := range l {
		for j, b := range l {
			if got, want := name.Less(a, b), before(a, b); got != want {
				t.Errorf("Less of texts %d and %d = %v", i, j, got)
			}
		}
	}
}

func TestLessOfEachTwoBytes(t *testing.T) {
	for a := range 256 {
		for b := range 256 {
			s, u := string([]byte{byte(a)}), string([]byte{byte(b)})
			if got := name.Less(s, u); got != (a < b) {
				t.Errorf("Less(%q, %q) = %v", s, u, got)
			}
			// The first byte that differs decides, whatever follows it.
			if got := name.Less("m"+s+"z", "m"+u+"a"); a != b && got != (a < b) {
				t.Errorf("Less(%q, %q) = %v", "m"+s+"z", "m"+u+"a", got)
			}
		}
	}
}

// P2.2: Find, Twice, Same.

func TestFind(t *testing.T) {
	for _, c := range []struct {
		list []string
		s    string
		want int
	}{
		{nil, "a", -1},
		{nil, "", -1},
		{[]string{}, "", -1},
		{[]string{""}, "", 0},
		{[]string{"a"}, "a", 0},
		{[]string{"a"}, "b", -1},
		{[]string{"a"}, "", -1},
		{[]string{"a"}, "ab", -1},
		{[]string{"ab"}, "a", -1},
		{[]string{"a", "b", "c"}, "c", 2},
		{[]string{"a", "b", "a", "b"}, "b", 1},
		{[]string{"a", "a", "a"}, "a", 0},
		{[]string{"b", "a", ""}, "", 2},
		{[]string{"a\x00", "a"}, "a", 1},
		{[]string{"a", "a\x00"}, "a\x00", 1},
		{[]string{"A", "a"}, "a", 1},
		{[]string{"\xff", "\xfe"}, "\xfe", 1},
		{[]string{"e\u0301", "\u00e9"}, "\u00e9", 1},
		{[]string{"\xff"}, "\ufffd", -1},
	} {
		if got := name.Find(c.list, c.s); got != c.want {
			t.Errorf("Find(%q, %q) = %d, want %d", c.list, c.s, got, c.want)
		}
	}
}

func TestFindEachText(t *testing.T) {
	l := texts()
	for i, s := range l {
		if got := name.Find(l, s); got != i {
			t.Errorf("Find of text %d = %d", i, got)
		}
		if got := name.Find(append(slices.Clone(l), l...), s); got != i {
			t.Errorf("Find of text %d in the doubled list = %d", i, got)
		}
		if got := name.Find(slices.Delete(slices.Clone(l), i, i+1), s); got != -1 {
			t.Errorf("Find of the missing text %d = %d", i, got)
		}
	}
}

func TestFindInLongList(t *testing.T) {
	l := numbered(200000)
	if got := name.Find(l, "n199999"); got != 199999 {
		t.Errorf("Find of the last element = %d", got)
	}
	if got := name.Find(l, "n200000"); got != -1 {
		t.Errorf("Find of no element = %d", got)
	}
}

func TestTwice(t *testing.T) {
	for _, c := range []struct {
		list []string
		want int
	}{
		{nil, -1},
		{[]string{}, -1},
		{[]string{""}, -1},
		{[]string{"a"}, -1},
		{[]string{"a", "b"}, -1},
		{[]string{"a", "a"}, 1},
		{[]string{"", ""}, 1},
		{[]string{"a", "", "b", ""}, 3},
		{[]string{"a", "a", "a"}, 1},
		{[]string{"a", "b", "a", "b"}, 2},
		{[]string{"a", "b", "b", "a"}, 2},
		{[]string{"c", "a", "b", "c"}, 3},
		{[]string{"a", "ab", "abc", "b", "bc", "c"}, -1},
		{[]string{"a", "a\x00", "A"}, -1},
		{[]string{"\xff", "\xfe", "\ufffd"}, -1},
		{[]string{"\xff", "\xfe", "\xff"}, 2},
		{[]string{"e\u0301", "\u00e9"}, -1},
	} {
		if got := name.Twice(c.list); got != c.want {
			t.Errorf("Twice(%q) = %d, want %d", c.list, got, c.want)
		}
	}
}

func TestTwiceOfEachText(t *testing.T) {
	l := texts()
	if got := name.Twice(l); got != -1 {
		t.Errorf("Twice of different texts = %d", got)
	}
	for i, s := range l {
		if got := name.Twice(append(slices.Clone(l), s, l[0])); got != len(l) {
			t.Errorf("Twice with text %d at the end = %d", i, got)
		}
	}
}

// A long list must not cost the square of its length.
func TestTwiceInLongList(t *testing.T) {
	l := numbered(400000)
	if got := name.Twice(l); got != -1 {
		t.Errorf("Twice of different elements = %d", got)
	}
	if got := name.Twice(append(l, l[len(l)-1], l[0])); got != len(l) {
		t.Errorf("Twice = %d, want %d", got, len(l))
	}
	if got := name.Twice(slices.Repeat([]string{"a"}, 100000)); got != 1 {
		t.Errorf("Twice of equal elements = %d", got)
	}
}

func TestSame(t *testing.T) {
	for _, c := range []struct {
		a, b []string
		want bool
	}{
		{nil, nil, true},
		{nil, []string{}, true},
		{[]string{}, nil, true},
		{[]string{}, []string{}, true},
		{nil, []string{""}, false},
		{[]string{""}, nil, false},
		{[]string{""}, []string{""}, true},
		{[]string{"", ""}, []string{""}, false},
		{[]string{"a"}, []string{"a"}, true},
		{[]string{"a"}, []string{"b"}, false},
		{[]string{"a"}, []string{"A"}, false},
		{[]string{"a"}, []string{"a\x00"}, false},
		{[]string{"a", "b"}, []string{"a", "b"}, true},
		{[]string{"a", "b"}, []string{"b", "a"}, false},
		{[]string{"a", "b"}, []string{"a"}, false},
		{[]string{"a"}, []string{"a", "b"}, false},
		{[]string{"a", "a"}, []string{"a"}, false},
		{[]string{"a", "b", "c"}, []string{"a", "x", "c"}, false},
		{[]string{"a", "b", "c"}, []string{"x", "b", "c"}, false},
		{[]string{"a", "b", "c"}, []string{"a", "b", "x"}, false},
		{[]string{"ab", "c"}, []string{"a", "bc"}, false},
		{[]string{"\xff"}, []string{"\xfe"}, false},
	} {
		if got := name.Same(c.a, c.b); got != c.want {
			t.Errorf("Same(%q, %q) = %v", c.a, c.b, got)
		}
	}
}

func TestSameOfLongLists(t *testing.T) {
	a, b := numbered(100000), numbered(100000)
	if !name.Same(a, b) || !name.Same(a, a) {
		t.Error("Same of equal lists = false")
	}
	if name.Same(a, b[:len(b)-1]) || name.Same(a[:len(a)-1], b) {
		t.Error("Same of lists of different lengths = true")
	}
	b[len(b)-1] = "other"
	if name.Same(a, b) {
		t.Error("Same of lists with different last elements = true")
	}
}

// P2.3: Sort, Join.

func TestSort(t *testing.T) {
	for _, c := range []struct{ list, want []string }{
		{nil, nil},
		{[]string{}, nil},
		{[]string{""}, []string{""}},
		{[]string{"", ""}, []string{""}},
		{[]string{"a"}, []string{"a"}},
		{[]string{"a", "a", "a"}, []string{"a"}},
		{[]string{"b", "ab", "b", "a"}, []string{"a", "ab", "b"}},
		{[]string{"a", "b", "c"}, []string{"a", "b", "c"}},
		{[]string{"c", "b", "a"}, []string{"a", "b", "c"}},
		{[]string{"a", "b", "a", "b", "a"}, []string{"a", "b"}},
		{[]string{"b", "", "a", ""}, []string{"", "a", "b"}},
		{[]string{"a9", "a10", "a_", "aa", "a"}, []string{"a", "a10", "a9", "a_", "aa"}},
		{[]string{"\x80", "\x7f", "\xff", "\x00", "", "z", "Z"}, []string{"", "\x00", "Z", "z", "\x7f", "\x80", "\xff"}},
		{[]string{"e\u0301", "\u00e9", "e"}, []string{"e", "e\u0301", "\u00e9"}},
	} {
		if got := name.Sort(c.list); !slices.Equal(got, c.want) {
			t.Errorf("Sort(%q) = %q, want %q", c.list, got, c.want)
		}
	}
}

func TestSortKeepsItsArgument(t *testing.T) {
	memory := []string{"c", "a", "c", "b", "a", "d"}
	old := slices.Clone(memory)
	got := name.Sort(memory[:4])
	if want := []string{"a", "b", "c"}; !slices.Equal(got, want) {
		t.Errorf("Sort = %q, want %q", got, want)
	}
	if !slices.Equal(memory, old) {
		t.Errorf("Sort changed its list to %q", memory)
	}
}

func TestSortReturnsNewMemory(t *testing.T) {
	for n := range 6 {
		memory := []string{"a", "b", "c", "d", "e", "f"}
		old := slices.Clone(memory)
		first, second := name.Sort(memory[:n]), name.Sort(memory[:n])
		for i := range first {
			first[i] = "changed"
		}
		first = append(first, "added")
		if len(first) != n+1 || !slices.Equal(memory, old) || !slices.Equal(second, old[:n]) {
			t.Errorf("the result of Sort shares memory: list %q, second result %q", memory, second)
		}
		memory[0] = "changed"
		if !slices.Equal(second, old[:n]) {
			t.Errorf("the result of Sort changed with the list: %q", second)
		}
	}
}

func TestJoin(t *testing.T) {
	for _, c := range []struct {
		list          []string
		between, want string
	}{
		{nil, "", ""},
		{nil, ", ", ""},
		{[]string{}, ", ", ""},
		{[]string{""}, ", ", ""},
		{[]string{"a"}, ", ", "a"},
		{[]string{"a", "b"}, ", ", "a, b"},
		{[]string{"a", "b", "c"}, "", "abc"},
		{[]string{"a", "b", "c"}, ",", "a,b,c"},
		{[]string{"b", "a", "b"}, ",", "b,a,b"},
		{[]string{"", ""}, ",", ","},
		{[]string{"", "a", ""}, ",", ",a,"},
		{[]string{",", ","}, ",", ",,,"},
		{[]string{"a\x00", "\xff"}, "\x80", "a\x00\x80\xff"},
	} {
		if got := name.Join(c.list, c.between); got != c.want {
			t.Errorf("Join(%q, %q) = %q, want %q", c.list, c.between, got, c.want)
		}
	}
}

func TestJoinOfLongList(t *testing.T) {
	got := name.Join(slices.Repeat([]string{"xyz"}, 100000), "<>")
	if want := strings.Repeat("xyz<>", 99999) + "xyz"; got != want {
		t.Errorf("Join returns %d bytes, want %d", len(got), len(want))
	}
}

// P2.4: the laws.

func TestSortIsAscendingAndComplete(t *testing.T) {
	doubled := append(texts(), texts()...)
	backwards := slices.Clone(doubled)
	slices.Reverse(backwards)
	for i, l := range [][]string{
		nil, {"a"}, doubled, backwards, numbered(1000),
		shuffled(10, 3), shuffled(100, 50), shuffled(1000, 1000), shuffled(100000, 30000), shuffled(100000, 1),
	} {
		got := name.Sort(l)
		for k := 1; k < len(got); k++ {
			if !name.Less(got[k-1], got[k]) || !before(got[k-1], got[k]) {
				t.Errorf("list %d: the elements %d and %d do not ascend", i, k-1, k)
			}
		}
		if a, b := set(got), set(l); a != b || len(got) != kinds(l) {
			t.Errorf("list %d: Sort returns other elements", i)
		}
	}
}

// kinds returns the number of different elements of l.
func kinds(l []string) int {
	seen := map[string]bool{}
	for _, s := range l {
		seen[s] = true
	}
	return len(seen)
}

// set returns a text that equal sets of elements have in common, and others have not.
func set(l []string) string {
	seen := map[string]bool{}
	for _, s := range l {
		seen[strconv.Quote(s)] = true
	}
	var keys []string
	for s := range seen {
		keys = append(keys, s)
	}
	slices.Sort(keys)
	return strings.Join(keys, " ")
}

func TestOneOfTwoPrecedesOrTheyAreEqual(t *testing.T) {
	l := texts()
	for i, a := range l {
		for j, b := range l {
			n := 0
			for _, is := range []bool{name.Less(a, b), name.Less(b, a), a == b} {
				if is {
					n++
				}
			}
			if n != 1 {
				t.Errorf("of texts %d and %d, %d relations hold", i, j, n)
			}
		}
	}
}

// P1 and the rules that hold everywhere: no call changes its arguments or looks beyond the length of a list.

func TestListsAreOnlyReadWithinTheirLength(t *testing.T) {
	memory := []string{"a", "b", "a", "c", "b"}
	old := slices.Clone(memory)
	if got := name.Find(memory[:3], "c"); got != -1 {
		t.Errorf("Find reads beyond the list: %d", got)
	}
	if got := name.Twice(memory[:2]); got != -1 {
		t.Errorf("Twice reads beyond the list: %d", got)
	}
	if !name.Same(memory[:1], []string{"a"}) || name.Same(memory[:1], memory[:2]) {
		t.Error("Same reads beyond the list")
	}
	if got := name.Join(memory[:2], ","); got != "a,b" {
		t.Errorf("Join reads beyond the list: %q", got)
	}
	if got := name.Twice(memory); got != 2 {
		t.Errorf("Twice = %d", got)
	}
	if !slices.Equal(memory, old) {
		t.Errorf("the list was changed to %q", memory)
	}
}
