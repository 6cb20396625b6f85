package path_test

import (
	"math"
	"math/rand"
	"regexp"
	"slices"
	"strconv"
	"strings"
	"testing"

	"revert/api"
	"revert/path"
)

// same fails the test unless got and want are equal.
func same[T comparable](t *testing.T, what string, got, want T) {
	t.Helper()
	if got != want {
		t.Errorf("%s: got %v, want %v", what, got, want)
	}
}

// alike fails the test unless got and want have the same items, in the same order.
func alike(t *testing.T, what string, got, want []string) {
	t.Helper()
	if !slices.Equal(got, want) {
		t.Errorf("%s: got %q, want %q", what, got, want)
	}
}

// list returns the words of s.
func list(s string) []string { return strings.Fields(s) }

// parses fails the test unless Parse(p) returns this.
func parses(t *testing.T, p string, want []string, wantE api.Errno) {
	t.Helper()
	l, e := path.Parse(p)
	alike(t, "Parse of "+strconv.Quote(p), l, want)
	same(t, "Parse of "+strconv.Quote(p), e, wantE)
}

// splits fails the test unless Split(s) returns this.
func splits(t *testing.T, s, want string, wantD api.Dot, wantIs bool) {
	t.Helper()
	name, d, is := path.Split(s)
	same(t, "Split of "+strconv.Quote(s), name, want)
	same(t, "Split of "+strconv.Quote(s), d, wantD)
	same(t, "Split of "+strconv.Quote(s), is, wantIs)
}

// sees fails the test unless Seen(p) returns this.
func sees(t *testing.T, p string, want []string, wantD api.Dot, wantIs bool, wantE api.Errno) {
	t.Helper()
	l, d, is, e := path.Seen(p)
	alike(t, "Seen of "+strconv.Quote(p), l, want)
	same(t, "Seen of "+strconv.Quote(p), d, wantD)
	same(t, "Seen of "+strconv.Quote(p), is, wantIs)
	same(t, "Seen of "+strconv.Quote(p), e, wantE)
}

// unseen fails the test unless Seen(p) returns this error, and nothing else.
func unseen(t *testing.T, p string, want api.Errno) {
	t.Helper()
	sees(t, p, nil, api.Dot{}, false, want)
}

// texts fails the test unless Text(l) returns this.
func texts(t *testing.T, l []string, want string, wantE api.Errno) {
	t.Helper()
	s, e := path.Text(l)
	same(t, "Text of "+strings.Join(l, " "), s, want)
	same(t, "Text of "+strings.Join(l, " "), e, wantE)
}

// conflicts fails the test unless Conflict(name, d) returns this.
func conflicts(t *testing.T, name string, d api.Dot, want string, wantE api.Errno) {
	t.Helper()
	s, e := path.Conflict(name, d)
	same(t, "Conflict of "+strconv.Quote(name), s, want)
	same(t, "Conflict of "+strconv.Quote(name), e, wantE)
}

// The chapter's examples.
func TestExamples(t *testing.T) {
	parses(t, "/", nil, api.OK)
	parses(t, "/a/b", list("a b"), api.OK)
	parses(t, "/a.b", list("a.b"), api.OK)
	for _, p := range []string{"", "a", "//", "/a/", "/a b", "/a~0.1"} {
		parses(t, p, nil, api.ErrForm)
	}
	parses(t, "/123456789", nil, api.ErrLong)
	parses(t, "/a/a/a/a/a", nil, api.ErrLong)
	parses(t, strings.Repeat("/", 37), nil, api.ErrLong)
	parses(t, strings.Repeat("/", 36), nil, api.ErrForm)
	conflicts(t, "a", api.Dot{R: 3, N: 7}, "a~3.7", api.OK)
	conflicts(t, "a", api.Dot{R: 8, N: 1}, "", api.ErrForm)
	conflicts(t, "a", api.Dot{}, "", api.ErrForm)
	conflicts(t, "a~0.1", api.Dot{N: 1}, "", api.ErrForm)
	splits(t, "a~3.7", "a", api.Dot{R: 3, N: 7}, true)
	for _, s := range []string{"a~3.07", "a~8.1", "a~0.65536", "~0.1"} {
		splits(t, s, s, api.Dot{}, false)
	}
	sees(t, "/d/a~3.7", list("d a"), api.Dot{R: 3, N: 7}, true, api.OK)
	sees(t, "/d", list("d"), api.Dot{}, false, api.OK)
	unseen(t, "/d~0.1/a", api.ErrForm)
	unseen(t, "/a~", api.ErrForm)
	up, last := path.Up(list("a b"))
	alike(t, "Up", up, list("a"))
	same(t, "Up", last, "b")
	alike(t, "Move", path.Move(list("a b c"), list("a b"), list("x")), list("x c"))
}

// may tells of each byte whether a name may contain it.
func may(b int) bool { return b >= 33 && b <= 126 && b != 0x2f && b != 0x7e }

// P4.1: which bytes a name may have, wherever they stand in it.
func TestNameBytes(t *testing.T) {
	for b := range 256 {
		c := string([]byte{byte(b)})
		for _, s := range []string{c, "a" + c, c + "a", "123" + c + "567"} {
			same(t, "Name of "+strconv.Quote(s), path.Name(s), may(b))
		}
	}
}

// P4.1: how long a name may be.
func TestNameLength(t *testing.T) {
	for n := range 300 {
		same(t, "Name of bytes a", path.Name(strings.Repeat("a", n)), n >= 1 && n <= 8)
	}
	same(t, "Name of many bytes", path.Name(strings.Repeat("a", 1<<20)), false)
}

// P4.1: nothing beyond the bytes 33 to 126 is a name, whether it is UTF-8 or not.
func TestNameRunes(t *testing.T) {
	for _, s := range []string{"é", "日本", "\x80", "\xc0\xa1", "\xed\xa0\x80", "\ufffd", "\xff", "a\u0301", "\u0661", "\u00a0", "\x7f", "a\n", "ſ"} {
		same(t, "Name of "+strconv.Quote(s), path.Name(s), false)
		parses(t, "/"+s, nil, api.ErrForm)
		texts(t, []string{s}, "", api.ErrForm)
		conflicts(t, s, api.Dot{N: 1}, "", api.ErrForm)
		splits(t, s+"~0.1", s+"~0.1", api.Dot{}, false)
		unseen(t, "/"+s+"~0.1", api.ErrForm)
	}
	for _, s := range []string{".", "..", "-", "!", "}", "a.b", "\\", "A", "0", "%2f"} {
		same(t, "Name of "+s, path.Name(s), true)
		parses(t, "/"+s, []string{s}, api.OK)
	}
}

// P4.1: more than 36 bytes are too many, whatever they are, and 36 are not.
func TestParseLength(t *testing.T) {
	full := strings.Repeat("/12345678", 4)
	parses(t, full, list("12345678 12345678 12345678 12345678"), api.OK)
	parses(t, full+"/", nil, api.ErrLong)
	parses(t, full+"9", nil, api.ErrLong)
	for _, c := range []string{"a", " ", "~", "\xff", "/"} {
		parses(t, strings.Repeat(c, 37), nil, api.ErrLong)
		parses(t, strings.Repeat(c, 36), nil, api.ErrForm)
		parses(t, strings.Repeat(c, 1<<20), nil, api.ErrLong)
	}
	parses(t, "/"+strings.Repeat("a", 36), nil, api.ErrLong)
	parses(t, "/"+strings.Repeat(" ", 36), nil, api.ErrLong)
}

// P4.1: a path string begins with a slash; that comes ahead of what its parts are.
func TestParseBegin(t *testing.T) {
	for _, p := range []string{"", "a", "a/b", "123456789", "123456789/a", "a/a/a/a/a", " /a", "~", "\x00", "\\a", "./a"} {
		parses(t, p, nil, api.ErrForm)
		unseen(t, p, api.ErrForm)
	}
}

// P4.1: an empty part is ErrForm wherever it stands.
func TestParseEmpty(t *testing.T) {
	for _, p := range []string{"//", "//a", "/a/", "/a//b", "/a/b//", "///", "/a/a/a/a/", "/a/a/a/a//", "/a/a/a//"} {
		parses(t, p, nil, api.ErrForm)
		unseen(t, p, api.ErrForm)
	}
}

// P4.1: of a part that is wrong in several ways, its form comes first: also of the fifth one.
func TestParseFormFirst(t *testing.T) {
	for _, p := range []string{"/12345678 ", "/1234567890 ", "/ 123456789", "/123456789\x00", "/a/a/a/a/ ", "/a/a/a/a/a\x7f", "/a/a/a/a/123456789\xff"} {
		parses(t, p, nil, api.ErrForm)
		unseen(t, p, api.ErrForm)
	}
	for _, p := range []string{"/12345678~", "/123456789~0.1", "/a/a/a/a/~", "/a/a/a/a/a~0.1"} {
		parses(t, p, nil, api.ErrForm)
	}
}

// P4.1: of several parts that are wrong, the first one counts.
func TestParseFromTheLeft(t *testing.T) {
	for p, want := range map[string]api.Errno{
		"/123456789/ ":      api.ErrLong,
		"/ /123456789":      api.ErrForm,
		"/123456789/":       api.ErrLong,
		"//123456789":       api.ErrForm,
		"/a/123456789//":    api.ErrLong,
		"/a/b~/123456789":   api.ErrForm,
		"/a/a/a/a/a/ ":      api.ErrLong,
		"/a/a/a/a/a//":      api.ErrLong,
		"/a/a/a/ /a":        api.ErrForm,
		"/a/a/a/123456789/": api.ErrLong,
	} {
		parses(t, p, nil, want)
		unseen(t, p, want)
	}
}

// P4.1: four names are a path, five are not.
func TestParseDepth(t *testing.T) {
	for n := range 10 {
		p := strings.Repeat("/a", n)
		if n > 4 {
			parses(t, p, nil, api.ErrLong)
		} else if n > 0 {
			parses(t, p, slices.Repeat(list("a"), n), api.OK)
		}
	}
}

// P4.1: the path string of no names is a slash; four names of eight bytes fit.
func TestText(t *testing.T) {
	texts(t, nil, "/", api.OK)
	texts(t, []string{}, "/", api.OK)
	texts(t, list("a"), "/a", api.OK)
	texts(t, list("a b.c ! }"), "/a/b.c/!/}", api.OK)
	texts(t, slices.Repeat(list("12345678"), 4), strings.Repeat("/12345678", 4), api.OK)
}

// P4.1: an element that is no name comes ahead of there being too many.
func TestTextWrong(t *testing.T) {
	texts(t, list("a a a a a"), "", api.ErrLong)
	texts(t, slices.Repeat(list("a"), 10000), "", api.ErrLong)
	for _, s := range []string{"", "/", "~", "a~0.1", "123456789", "a/b", "a b", "\xff"} {
		for n := range 8 {
			for i := range n + 1 {
				texts(t, slices.Insert(slices.Repeat(list("a"), n), i, s), "", api.ErrForm)
			}
		}
	}
}

// P4.2: a conflict name has the numbers of the dot, without zeros ahead of them.
func TestConflict(t *testing.T) {
	for r := range uint8(8) {
		for _, n := range []uint32{1, 9, 10, 99, 100, 999, 1000, 9999, 10000, 65534, 65535} {
			for _, name := range []string{"a", "12345678", ".", "a.1", "0"} {
				want := name + "~" + strconv.Itoa(int(r)) + "." + strconv.Itoa(int(n))
				conflicts(t, name, api.Dot{R: r, N: n}, want, api.OK)
				splits(t, want, name, api.Dot{R: r, N: n}, true)
			}
		}
	}
}

// P4.2: a name that is none, and numbers that no dot has.
func TestConflictWrong(t *testing.T) {
	for _, name := range []string{"", "123456789", "a b", "a/b", "/a", "a~", "a~0.1", "~", "\xff", "é"} {
		conflicts(t, name, api.Dot{R: 1, N: 1}, "", api.ErrForm)
	}
	for r := 8; r < 256; r++ {
		conflicts(t, "a", api.Dot{R: uint8(r), N: 1}, "", api.ErrForm)
	}
	for _, n := range []uint32{0, 65536, 65537, 1 << 17, 1 << 31, math.MaxUint32} {
		for r := range uint8(8) {
			conflicts(t, "a", api.Dot{R: r, N: n}, "", api.ErrForm)
		}
	}
}

// P4.2: what is no conflict name is returned as it is.
func TestSplitWrong(t *testing.T) {
	for _, s := range []string{
		"", "a", "~", ".", "~.", "a~", "a~.", "a~0", "a~0.", "a~.1", "a~0.0", "a~0.01", "a~00.1", "a~03.7", "a~3.07", "a~8.1", "a~9.1", "a~10.1",
		"a~0.65536", "a~0.65537", "a~0.99999", "a~0.100000", "a~0.4294967297", "a~0.18446744073709551617", "a~256.1", "a~0." + strings.Repeat("9", 1000),
		"~0.1", "123456789~0.1", "a b~0.1", "/a~0.1", "a/b~0.1", "a~0.1/b", "a~~0.1", "a~0~0.1", "a~0.1~0.1", "a~0.1~", "a~0.1.", "a~0.1.1",
		"a~0,1", "a~01", "a~0..1", "a~+0.1", "a~0.+1", "a~-0.1", "a~0.-1", "a~ 0.1", "a~0. 1", "a~0.1 ", " a~0.1", "a~0.1_0", "a~0.0x1", "a~0.1e1", "a~0.a", "a~x.1", "a~0.1\x00", "a~0.\u0661", "\xff~0.1",
	} {
		splits(t, s, s, api.Dot{}, false)
	}
}

// P4.2: each digit, each number of digits, and each number around the greatest one.
func TestSplitNumbers(t *testing.T) {
	for n := range 66000 {
		s := "a~5." + strconv.Itoa(n)
		if n >= 1 && n <= 65535 {
			splits(t, s, "a", api.Dot{R: 5, N: uint32(n)}, true)
		} else {
			splits(t, s, s, api.Dot{}, false)
		}
	}
	for b := range 256 {
		s := "a~" + string([]byte{byte(b)}) + ".1"
		if b >= '0' && b <= '7' {
			splits(t, s, "a", api.Dot{R: uint8(b - '0'), N: 1}, true)
		} else {
			splits(t, s, s, api.Dot{}, false)
		}
	}
}

// P4.2: Seen returns the names, the last one without what follows it, and the dot.
func TestSeen(t *testing.T) {
	sees(t, "/", nil, api.Dot{}, false, api.OK)
	sees(t, "/a/b/c/d", list("a b c d"), api.Dot{}, false, api.OK)
	sees(t, "/a~0.1", list("a"), api.Dot{N: 1}, true, api.OK)
	sees(t, "/a/b/c/d~7.65535", list("a b c d"), api.Dot{R: 7, N: 65535}, true, api.OK)
	sees(t, "/a.b/..~2.30", list("a.b .."), api.Dot{R: 2, N: 30}, true, api.OK)
}

// P4.2: 44 bytes are the most that a seen path can have; more are too many, whatever they are.
func TestSeenLength(t *testing.T) {
	full := strings.Repeat("/12345678", 4)
	names := slices.Repeat(list("12345678"), 4)
	sees(t, full, names, api.Dot{}, false, api.OK)
	sees(t, full+"~7.65535", names, api.Dot{R: 7, N: 65535}, true, api.OK)
	sees(t, full+"~7.6553", names, api.Dot{R: 7, N: 6553}, true, api.OK)
	unseen(t, full+"~7.655350", api.ErrLong)
	unseen(t, full+"~7.65536", api.ErrForm)
	unseen(t, full+"9~0.1", api.ErrLong)
	unseen(t, full+"/", api.ErrForm)
	unseen(t, full+"/a", api.ErrLong)
	for _, c := range []string{"a", " ", "~", "\xff", "/"} {
		unseen(t, strings.Repeat(c, 45), api.ErrLong)
		unseen(t, strings.Repeat(c, 44), api.ErrForm)
		unseen(t, strings.Repeat(c, 1<<20), api.ErrLong)
	}
	unseen(t, "/"+strings.Repeat("a", 43), api.ErrLong)
	unseen(t, "/"+strings.Repeat(" ", 43), api.ErrForm)
}

// P4.2: a tilde in another part than the last one is ErrForm, in its turn.
func TestSeenTildeAbove(t *testing.T) {
	for _, p := range []string{"/a~0.1/", "/a~0.1/b", "/a~0.1/b~0.1", "/~/a~0.1", "/a/b~0.1/c", "/a~0.1//", "/a~0.1/123456789"} {
		unseen(t, p, api.ErrForm)
	}
	unseen(t, "/123456789/a~0.1/b", api.ErrLong)
	unseen(t, "/a/a/a/a/b/c~0.1/d", api.ErrLong)
}

// P4.2: the form and the length of the name come ahead of what follows it.
func TestSeenNameFirst(t *testing.T) {
	for _, tail := range []string{"~", "~0.1", "~8.1", "~~", "~0.1~0.1", "~ ", "~123456789", "~\xff"} {
		unseen(t, "/123456789"+tail, api.ErrLong)
		unseen(t, "/a/a/a/a/a"+tail, api.ErrLong)
		unseen(t, "/a/a/a/a/123456789"+tail, api.ErrLong)
		unseen(t, "/123456789/a"+tail, api.ErrLong)
		for _, head := range []string{"/", "/a/", "/a/a/a/a/", "/12345678 ", "/a/a/a/a/ ", "/ /a", "//a", "a", "", "/a/a/a/a\x7f"} {
			unseen(t, head+tail, api.ErrForm)
		}
	}
	for _, tail := range []string{"~", "~8.1", "~~", "~0.1~0.1", "~ ", "~123456789", "~\xff", "~0.0", "~0.65536", "~00.1", "~0.01"} {
		unseen(t, "/a"+tail, api.ErrForm)
		unseen(t, "/a/b/c/12345678"+tail, api.ErrForm)
	}
}

// P4.3: a path is within those above it, and within itself, and within no other one.
func TestWithin(t *testing.T) {
	for _, c := range []struct {
		a, b string
		want bool
	}{
		{"", "", true}, {"", "a", true}, {"a", "", false}, {"a", "a", true}, {"a", "b", false}, {"a", "a b", true}, {"a b", "a", false},
		{"b", "a b", false}, {"a b", "a b c d", true}, {"a c", "a b c", false}, {"a b", "a", false}, {"ab", "a b", false}, {"a", "ab", false}, {"a b", "x b c", false},
	} {
		same(t, c.a+" and "+c.b, path.Within(list(c.a), list(c.b)), c.want)
	}
	odd := []string{"", "/", "~"}
	same(t, "elements that are no names", path.Within(odd[:2], odd), true)
	same(t, "elements that are no names", path.Within(odd, odd[1:]), false)
	same(t, "an empty element and none", path.Within(odd[:1], nil), false)
}

// P4.3: Up takes off the last name, and nothing from the root.
func TestUp(t *testing.T) {
	for l, want := range map[string]string{"": "", "a": "", "a b": "a", "a b c": "a b", "a b c d": "a b c", "a b c d e": "a b c d"} {
		up, last := path.Up(list(l))
		alike(t, "Up of "+l, up, list(want))
		same(t, "Up of "+l, last, strings.TrimSpace(strings.TrimPrefix(l, want)))
	}
}

// P4.3: Move puts to in the place of from, whatever their lengths are, and leaves what is not within from.
func TestMove(t *testing.T) {
	for _, c := range []struct{ l, from, to, want string }{
		{"a b c", "a b", "x", "x c"},
		{"a b c", "a", "x y", "x y b c"},
		{"a b", "a b", "x", "x"},
		{"a b", "a b", "", ""},
		{"a b", "", "x", "x a b"},
		{"", "", "x y", "x y"},
		{"", "", "", ""},
		{"", "a", "x", ""},
		{"a b", "b", "x", "a b"},
		{"a", "a b", "x", "a"},
		{"a b c", "a c", "x", "a b c"},
		{"a b", "a", "a", "a b"},
		{"a a a", "a", "a a", "a a a a"},
		{"a b c d", "a", "w x y z", "w x y z b c d"},
	} {
		alike(t, c.l+", "+c.from+", "+c.to, path.Move(list(c.l), list(c.from), list(c.to)), list(c.want))
	}
}

// spare returns l with room behind it: what is appended in place shows there.
func spare(l ...string) []string {
	whole := append(slices.Clone(l), "room", "room", "room", "room")
	return whole[:len(l)]
}

// P4.3: arguments are not changed, and results are new memory.
func TestNewMemory(t *testing.T) {
	l, from, to := spare("a", "b", "c"), spare("a"), spare("x", "y")
	wipe := func(got []string) {
		for i := range got {
			got[i] = "wiped"
		}
		_ = append(got, "more", "more")
		wiped := got[:cap(got)]
		for i := range wiped {
			wiped[i] = "wiped"
		}
	}
	up, _ := path.Up(l)
	parsed, _ := path.Parse("/a/b")
	again, _ := path.Parse("/a/b")
	wipe(parsed)
	alike(t, "parsed ahead", again, list("a b"))
	first, _ := path.Up(l[:1])
	for _, got := range [][]string{up, first, path.Move(l, from, to), path.Move(l, from, nil), path.Move(l, l, to), path.Move(l, nil, nil), path.Move(l, to, from), path.Move(l, l, nil)} {
		wipe(got)
		alike(t, "l", l[:7], list("a b c room room room room"))
		alike(t, "from", from[:5], list("a room room room room"))
		alike(t, "to", to[:6], list("x y room room room room"))
	}
	texts(t, l, "/a/b/c", api.OK)
	alike(t, "l", l[:7], list("a b c room room room room"))
}

const alphabet = "!\"#$%&'()*+,-.0123456789:;<=>?@ABCDEFGHIJKLMNOPQRSTUVWXYZ[\\]^_`abcdefghijklmnopqrstuvwxyz{|}"

// someName returns a name of few or of many bytes.
func someName(g *rand.Rand) string {
	b := make([]byte, 1+g.Intn(8))
	for i := range b {
		b[i] = alphabet[g.Intn(len(alphabet))]
	}
	return string(b)
}

// somePath returns up to 4 names, few of which differ if few is set.
func somePath(g *rand.Rand, few bool) []string {
	l := make([]string, g.Intn(5))
	for i := range l {
		if l[i] = someName(g); few {
			l[i] = []string{"a", "b"}[g.Intn(2)]
		}
	}
	return l
}

// someDot returns a dot that a value may have.
func someDot(g *rand.Rand) api.Dot {
	return api.Dot{R: uint8(g.Intn(8)), N: 1 + uint32(g.Intn(65535))>>g.Intn(16)}
}

// P4.4: what is made of a path, or of a name and a dot, is read back.
func TestThereAndBack(t *testing.T) {
	g := rand.New(rand.NewSource(44))
	for range 20000 {
		l := somePath(g, false)
		s, e := path.Text(l)
		same(t, "Text", e, api.OK)
		parses(t, s, l, api.OK)
		sees(t, s, l, api.Dot{}, false, api.OK)
		name, d := someName(g), someDot(g)
		c, e := path.Conflict(name, d)
		same(t, "Conflict", e, api.OK)
		splits(t, c, name, d, true)
		if len(l) < 4 {
			sees(t, strings.TrimSuffix(s, "/")+"/"+c, append(slices.Clone(l), name), d, true, api.OK)
		}
	}
}

// P4.5: different names and dots have different conflict names, none of which is a name.
func TestConflictsDiffer(t *testing.T) {
	g := rand.New(rand.NewSource(45))
	type pair struct {
		name string
		d    api.Dot
	}
	of := map[string]pair{}
	add := func(p pair) {
		c, e := path.Conflict(p.name, p.d)
		same(t, "Conflict", e, api.OK)
		same(t, "Name of "+c, path.Name(c), false)
		if other, there := of[c]; there {
			same(t, "what has the conflict name "+c, other, p)
		}
		of[c] = p
	}
	for _, name := range []string{"a", "b", "a1", "a.1", "1", "11"} {
		for r := range uint8(8) {
			for n := range uint32(1200) {
				add(pair{name, api.Dot{R: r, N: n + 1}})
			}
		}
	}
	for range 20000 {
		add(pair{someName(g), someDot(g)})
	}
}

// P4.5: a path is within itself and within the paths above it.
func TestWithinAbove(t *testing.T) {
	g := rand.New(rand.NewSource(46))
	for range 2000 {
		l := somePath(g, g.Intn(2) == 0)
		for above := l; ; above, _ = path.Up(above) {
			same(t, "Within", path.Within(above, l), true)
			same(t, "Within, the other way", path.Within(l, above), len(above) == len(l))
			if len(above) == 0 {
				break
			}
		}
	}
}

// P4.5: a Move back undoes a Move of a path that is within from.
func TestMoveBack(t *testing.T) {
	g := rand.New(rand.NewSource(47))
	for range 20000 {
		l, from, to := somePath(g, true), somePath(g, true), somePath(g, true)
		if !path.Within(from, l) {
			alike(t, "a Move of what is not within from", path.Move(l, from, to), l)
			continue
		}
		moved := path.Move(l, from, to)
		same(t, "Within", path.Within(to, moved), true)
		same(t, "names", len(moved), len(l)-len(from)+len(to))
		alike(t, "a Move back", path.Move(moved, to, from), l)
	}
}

var (
	nameForm     = regexp.MustCompile(`^[!-.0-}]{1,8}$`)
	conflictForm = regexp.MustCompile(`^([!-.0-}]{1,8})~([0-7])\.([1-9][0-9]{0,4})$`)
)

// modelSplit is what Split does, by the form of a conflict name.
func modelSplit(s string) (string, api.Dot, bool) {
	m := conflictForm.FindStringSubmatch(s)
	if m == nil {
		return s, api.Dot{}, false
	}
	n, _ := strconv.Atoi(m[3])
	if n > 65535 {
		return s, api.Dot{}, false
	}
	return m[1], api.Dot{R: m[2][0] - '0', N: uint32(n)}, true
}

// modelPart is what is wrong with a part that has so many parts ahead of it.
func modelPart(s string, ahead int) api.Errno {
	for i := range len(s) {
		if !may(int(s[i])) {
			return api.ErrForm
		}
	}
	if s == "" {
		return api.ErrForm
	}
	if len(s) > 8 || ahead > 3 {
		return api.ErrLong
	}
	return api.OK
}

// modelSeen is what Seen does, and what Parse does if most is 36.
func modelSeen(p string, most int) (l []string, d api.Dot, is bool, e api.Errno) {
	fail := func(e api.Errno) ([]string, api.Dot, bool, api.Errno) { return nil, api.Dot{}, false, e }
	if len(p) > most {
		return fail(api.ErrLong)
	}
	if p == "" || p[0] != '/' {
		return fail(api.ErrForm)
	}
	if p == "/" {
		return nil, api.Dot{}, false, api.OK
	}
	all := strings.Split(p, "/")[1:]
	for i, part := range all {
		name := part
		if most == 44 && i == len(all)-1 {
			name = strings.Split(part, "~")[0]
		}
		if e := modelPart(name, i); e != api.OK {
			return fail(e)
		}
		if name != part {
			if name, d, is = modelSplit(part); !is {
				return fail(api.ErrForm)
			}
		}
		l = append(l, name)
	}
	return l, d, is, api.OK
}

// P4.1, P4.2: strings that are nearly right, against a model.
func TestModel(t *testing.T) {
	g := rand.New(rand.NewSource(48))
	bits := []string{"/", "/", "/", "/a", "/a", "/b", "a", "b", "12345678", "1234567", "~", "~0.1", "~7.65535", "~3.", "~8.1", ".", "1", "0", " ", "\xff", "é", "\x7f", "/a~1.1"}
	for range 60000 {
		p := ""
		if g.Intn(4) > 0 {
			p = "/"
		}
		for range g.Intn(9) {
			p += bits[g.Intn(len(bits))]
		}
		l, _, _, e := modelSeen(p, 36)
		parses(t, p, l, e)
		l, d, is, e := modelSeen(p, 44)
		sees(t, p, l, d, is, e)
		last := p[strings.LastIndexByte(p, '/')+1:]
		same(t, "Name of "+strconv.Quote(last), path.Name(last), nameForm.MatchString(last))
		name, d, is := modelSplit(last)
		splits(t, last, name, d, is)
	}
}
