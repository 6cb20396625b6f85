package rank_test

import (
	"fmt"
	"math"
	"reflect"
	"slices"
	"strings"
	"testing"

	"revert/api"
	"revert/path"
	"revert/rank"
	"revert/sibling"
)

type (
	reg   = sibling.Reg[string]
	sib   = sibling.Sib[string]
	group = rank.Group[string]
	seen  = rank.Seen[string]
)

// equal ends the test unless got and want are equal.
func equal[T comparable](t *testing.T, what string, got, want T) {
	t.Helper()
	if got != want {
		t.Fatalf("%s: got %#v, want %#v", what, got, want)
	}
}

// list ends the test unless got and want have equal elements, whatever lists these have in turn.
func list[T any](t *testing.T, what string, got, want []T) {
	t.Helper()
	if len(got)+len(want) > 0 && !reflect.DeepEqual(got, want) {
		t.Fatalf("%s: got %v, want %v", what, got, want)
	}
}

func dot(r uint8, n uint32) api.Dot { return api.Dot{R: r, N: n} }

func by(r uint8, n uint32, v string) sib { return sib{D: dot(r, n), V: v} }

// of returns the register of these siblings, which must be in order to make it valid.
func of(l ...sib) reg {
	x := reg{L: l}
	for _, s := range l {
		if s.D.R < api.Replicas {
			x.C[s.D.R] = max(x.C[s.D.R], s.D.N)
		}
	}
	return x
}

func grp(v string, dots ...api.Dot) group { return group{V: v, Dots: dots} }

// plain, folder and aside return what is seen at the name itself, or at a conflict name.
func plain(name string, g group) seen  { return seen{Name: name, G: g} }
func folder(name string, g group) seen { return seen{Name: name, Dir: true, G: g} }
func aside(name string, g group) seen  { return seen{Name: name, Conflict: true, G: g} }

func isDir(v string) bool { return strings.HasPrefix(v, "/") }

func isSame(a, b string) bool { return a == b }

func always(a, b string) bool { return true }

func never(a, b string) bool { return false }

// groups returns what Groups produces.
func groups(x reg, same func(a, b string) bool) []group {
	var l []group
	for g := range rank.Groups(x, same) {
		l = append(l, g)
	}
	return l
}

// grouped fails the test unless Groups produces this.
func grouped(t *testing.T, x reg, same func(a, b string) bool, want ...group) {
	t.Helper()
	list(t, fmt.Sprint("Groups of ", x), groups(x, same), want)
}

// shows fails the test unless At returns this, for the name n.
func shows(t *testing.T, x reg, want ...seen) {
	t.Helper()
	list(t, fmt.Sprint("At of ", x), rank.At(x, "n", isDir, isSame), want)
}

// sample is the register X of the chapter's examples.
func sample() reg { return of(by(0, 1, "a"), by(1, 2, "b"), by(2, 2, "a")) }

// The chapter's examples.
func TestExamples(t *testing.T) {
	a, b := grp("a", dot(2, 2), dot(0, 1)), grp("b", dot(1, 2))
	grouped(t, sample(), isSame, a, b)
	shows(t, sample(), plain("n", a), aside("n~1.2", b))
	x := of(by(0, 1, "a"), by(1, 1, "/"), by(1, 2, "b"), by(2, 2, "a"), by(0, 3, "/"))
	shows(t, x, folder("n", grp("/", dot(0, 3), dot(1, 1))), aside("n~2.2", a), aside("n~1.2", b))
	grouped(t, reg{}, isSame)
	shows(t, reg{})
}

// P8.1: groups are in the order of their greatest dots, whatever else is in them; these are ordered by N, and then by R.
func TestGroups(t *testing.T) {
	x := of(by(0, 1, "a"), by(7, 1, "b"), by(3, 2, "c"), by(0, 4, "b"), by(5, 4, "a"), by(0, 9, "c"))
	grouped(t, x, isSame, grp("c", dot(0, 9), dot(3, 2)), grp("a", dot(5, 4), dot(0, 1)), grp("b", dot(0, 4), dot(7, 1)))
	grouped(t, x, always, grp("c", dot(0, 9), dot(5, 4), dot(0, 4), dot(3, 2), dot(7, 1), dot(0, 1)))
	grouped(t, x, never,
		grp("c", dot(0, 9)), grp("a", dot(5, 4)), grp("b", dot(0, 4)), grp("c", dot(3, 2)), grp("b", dot(7, 1)), grp("a", dot(0, 1)))
	grouped(t, of(by(7, 65535, "")), isSame, grp("", dot(7, 65535)))
	grouped(t, of(by(7, 65535, "")), never, grp("", dot(7, 65535)))
	grouped(t, reg{L: []sib{}}, isSame)
	grouped(t, reg{C: api.Vector{9, 9}}, isSame)
}

// P8.1: the value of a group is that of its greatest dot, even where the others differ from it.
func TestGroupsValue(t *testing.T) {
	x := of(by(0, 1, "a"), by(0, 2, "A"), by(0, 3, "b"), by(0, 4, "B"), by(0, 5, "a"))
	grouped(t, x, strings.EqualFold, grp("a", dot(0, 5), dot(0, 2), dot(0, 1)), grp("B", dot(0, 4), dot(0, 3)))
}

// near reports whether the numbers that a and b are differ by at most one: a value may be near to two that are not near to each other.
func near(a, b string) bool { return a[0]-b[0]+1 <= 2 }

// P8.1: a sibling joins the first group of those that it could join, and is held against the value of the group alone.
func TestGroupsFirst(t *testing.T) {
	grouped(t, of(by(0, 1, "2"), by(0, 2, "3"), by(0, 3, "1")), near, grp("1", dot(0, 3), dot(0, 1)), grp("3", dot(0, 2)))
	grouped(t, of(by(0, 1, "2"), by(0, 2, "1"), by(0, 3, "3")), near, grp("3", dot(0, 3), dot(0, 1)), grp("1", dot(0, 2)))
	grouped(t, of(by(0, 1, "1"), by(0, 2, "3"), by(0, 3, "2")), near, grp("2", dot(0, 3), dot(0, 2), dot(0, 1)))
	grouped(t, of(by(0, 1, "3"), by(0, 2, "2"), by(0, 3, "1")), near, grp("1", dot(0, 3), dot(0, 2)), grp("3", dot(0, 1)))
}

// P8.1: same is called with the value of a group, and then that of a sibling, for one group after the other.
func TestGroupsCalls(t *testing.T) {
	var calls []string
	x := of(by(0, 1, "p"), by(0, 2, "q"), by(0, 3, "r"), by(0, 4, "Q"), by(0, 5, "s"))
	grouped(t, x, func(a, b string) bool {
		calls = append(calls, a+b)
		return strings.EqualFold(a, b)
	}, grp("s", dot(0, 5)), grp("Q", dot(0, 4), dot(0, 2)), grp("r", dot(0, 3)), grp("p", dot(0, 1)))
	list(t, "calls", calls, []string{"sQ", "sr", "Qr", "sq", "Qq", "sp", "Qp", "rp"})
	below := func(a, b string) bool { return a < b }
	grouped(t, of(by(0, 1, "b"), by(0, 2, "a")), below, grp("a", dot(0, 2), dot(0, 1)))
	grouped(t, of(by(0, 1, "a"), by(0, 2, "b")), below, grp("b", dot(0, 2)), grp("a", dot(0, 1)))
}

// P8.1: a loop over Groups may end at any time, and may be run again.
func TestGroupsEnds(t *testing.T) {
	x := of(by(0, 1, "a"), by(0, 2, "b"), by(0, 3, "a"), by(0, 4, "c"), by(0, 5, "d"))
	want := groups(x, isSame)
	equal(t, "groups", len(want), 4)
	all := rank.Groups(x, isSame)
	for stop := range want {
		var got []group
		all(func(g group) bool {
			got = append(got, g)
			return len(got) <= stop
		})
		list(t, fmt.Sprint("the first ", stop+1), got, want[:stop+1])
	}
	for g := range all {
		for h := range all {
			list(t, "the first one, within a loop", []group{h}, want[:1])
			break
		}
		list(t, "the first one", []group{g}, want[:1])
		break
	}
}

// P8.2: with a directory, that has the name, and even the first of the others has a conflict name.
func TestAtDir(t *testing.T) {
	shows(t, of(by(0, 1, "/")), folder("n", grp("/", dot(0, 1))))
	shows(t, of(by(0, 1, "/"), by(3, 1, "x")), folder("n", grp("/", dot(0, 1))), aside("n~3.1", grp("x", dot(3, 1))))
	shows(t, of(by(0, 1, "x"), by(3, 1, "/")), folder("n", grp("/", dot(3, 1))), aside("n~0.1", grp("x", dot(0, 1))))
	shows(t, of(by(0, 1, "/"), by(1, 1, "x"), by(2, 1, "y"), by(3, 1, "/"), by(4, 1, "x"), by(5, 1, "z"), by(6, 1, "/")),
		folder("n", grp("/", dot(6, 1), dot(3, 1), dot(0, 1))),
		aside("n~5.1", grp("z", dot(5, 1))), aside("n~4.1", grp("x", dot(4, 1), dot(1, 1))), aside("n~2.1", grp("y", dot(2, 1))))
}

// P8.2: without a directory, the first group has the name.
func TestAtFiles(t *testing.T) {
	shows(t, of(by(7, 65535, "x")), plain("n", grp("x", dot(7, 65535))))
	shows(t, of(by(0, 1, "x"), by(1, 1, "x"), by(2, 1, "x")), plain("n", grp("x", dot(2, 1), dot(1, 1), dot(0, 1))))
	shows(t, of(by(0, 1, "x"), by(1, 1, "y"), by(0, 10, "z")),
		plain("n", grp("z", dot(0, 10))), aside("n~1.1", grp("y", dot(1, 1))), aside("n~0.1", grp("x", dot(0, 1))))
}

// P8.2: directories are the same as each other, and as no other value, whatever same reports; the value is that of the greatest dot.
func TestAtDirsAreSame(t *testing.T) {
	x := of(by(0, 1, "/p"), by(1, 1, "x"), by(2, 1, "/q"), by(3, 1, "y"), by(4, 1, "/r"), by(5, 1, "x"))
	dirs := folder("n", grp("/r", dot(4, 1), dot(2, 1), dot(0, 1)))
	list(t, "never", rank.At(x, "n", isDir, never), []seen{dirs,
		aside("n~5.1", grp("x", dot(5, 1))), aside("n~3.1", grp("y", dot(3, 1))), aside("n~1.1", grp("x", dot(1, 1)))})
	list(t, "always", rank.At(x, "n", isDir, always), []seen{dirs, aside("n~5.1", grp("x", dot(5, 1), dot(3, 1), dot(1, 1)))})
	list(t, "by EqualFold", rank.At(x, "n", isDir, strings.EqualFold), []seen{dirs,
		aside("n~5.1", grp("x", dot(5, 1), dot(1, 1))), aside("n~3.1", grp("y", dot(3, 1)))})
}

// P8.2: the value of a group and then that of a sibling is what same is called with; it has no say about directories.
func TestAtCalls(t *testing.T) {
	var calls, asked []string
	x := of(by(0, 1, "x"), by(1, 1, "/"), by(2, 1, "y"), by(3, 1, "/"), by(4, 1, "z"))
	rank.At(x, "n", func(v string) bool {
		asked = append(asked, v)
		return isDir(v)
	}, func(a, b string) bool {
		calls = append(calls, a+b)
		return false
	})
	list(t, "calls of same", calls, []string{"zy", "zx", "yx"})
	slices.Sort(asked)
	list(t, "calls of dir", asked, []string{"/", "/", "x", "y", "z"})
}

// P8.2: what stands at the name itself has it as it is given, and a conflict name is empty where path.Conflict returns an error.
func TestAtNames(t *testing.T) {
	for _, name := range []string{"", "a", "12345678", "123456789", "a b", "a/b", "a~0.1", "/", "~", "\xff", "é"} {
		want, e := path.Conflict(name, dot(1, 2))
		equal(t, "error for "+name, e == api.OK, len(name) > 0 && len(name) < 9 && !strings.ContainsAny(name, " /~\xffé"))
		l := rank.At(sample(), name, isDir, isSame)
		list(t, "At of "+name, l, []seen{plain(name, grp("a", dot(2, 2), dot(0, 1))), aside(want, grp("b", dot(1, 2)))})
		l = rank.At(of(by(1, 2, "b"), by(0, 9, "/")), name, isDir, isSame)
		list(t, "At of "+name, l, []seen{folder(name, grp("/", dot(0, 9))), aside(want, grp("b", dot(1, 2)))})
	}
}

// P8.2: a dot that is none gives an empty conflict name, and is no harm at the name itself.
func TestAtOddDots(t *testing.T) {
	for _, d := range []api.Dot{{}, dot(8, 1), dot(255, 1), dot(0, 65536), dot(7, math.MaxUint32)} {
		x := of(sib{D: d, V: "a"}, by(1, 2, "b"))
		shows(t, x, plain("n", grp("b", dot(1, 2))), aside("", grp("a", d)))
		shows(t, of(sib{D: d, V: "a"}), plain("n", grp("a", d)))
		shows(t, of(sib{D: d, V: "/"}, by(1, 2, "b")), folder("n", grp("/", d)), aside("n~1.2", grp("b", dot(1, 2))))
	}
}

// P8.2: what is asked about are the values, of any type.
func TestAnyValue(t *testing.T) {
	type lists = sibling.Reg[[]int]
	x := lists{C: api.Vector{3}}
	for i, v := range [][]int{{1, 2}, nil, {1, 2}} {
		x.L = append(x.L, sibling.Sib[[]int]{D: dot(0, uint32(i+1)), V: v})
	}
	l := rank.At(x, "n", func(v []int) bool { return v == nil }, slices.Equal[[]int])
	list(t, "At", l, []rank.Seen[[]int]{
		{Name: "n", Dir: true, G: rank.Group[[]int]{Dots: []api.Dot{dot(0, 2)}}},
		{Name: "n~0.3", Conflict: true, G: rank.Group[[]int]{V: []int{1, 2}, Dots: []api.Dot{dot(0, 3), dot(0, 1)}}},
	})
}
