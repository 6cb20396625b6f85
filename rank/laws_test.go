package rank_test

import (
	"cmp"
	"fmt"
	"math/rand"
	"slices"
	"testing"

	"revert/api"
	"revert/path"
	"revert/rank"
	"revert/sibling"
)

// below orders dots by N, and then by R.
func below(a, b api.Dot) int { return cmp.Or(cmp.Compare(a.N, b.N), cmp.Compare(a.R, b.R)) }

// modelGroups returns the groups of values that keep accepts, for values that are the same exactly if they are equal: found by value, and then sorted.
func modelGroups(x reg, keep func(v string) bool) []group {
	dots := map[string][]api.Dot{}
	for _, s := range x.L {
		if keep(s.V) {
			dots[s.V] = append(dots[s.V], s.D)
		}
	}
	var l []group
	for v, d := range dots {
		slices.SortFunc(d, func(a, b api.Dot) int { return below(b, a) })
		l = append(l, group{V: v, Dots: d})
	}
	slices.SortFunc(l, func(a, b group) int { return below(b.Dots[0], a.Dots[0]) })
	return l
}

// modelAt returns what is seen at the name n, where the only directory is "/".
func modelAt(x reg) []seen {
	var l []seen
	for _, g := range modelGroups(x, isDir) {
		l = append(l, folder("n", g))
	}
	for i, g := range modelGroups(x, func(v string) bool { return !isDir(v) }) {
		if i == 0 && len(l) == 0 {
			l = append(l, plain("n", g))
		} else {
			l = append(l, aside(fmt.Sprintf("n~%d.%d", g.Dots[0].R, g.Dots[0].N), g))
		}
	}
	return l
}

// words returns all lists of so many of these values.
func words(n int, values ...string) [][]string {
	all := [][]string{nil}
	for range n {
		var longer [][]string
		for _, l := range all {
			for _, v := range values {
				longer = append(longer, append(slices.Clone(l), v))
			}
		}
		all = longer
	}
	return all
}

// small returns the registers with up to 5 siblings that have each of four values.
func small() []reg {
	dots := []api.Dot{dot(3, 1), dot(5, 1), dot(0, 2), dot(1, 10), dot(7, 10)}
	var all []reg
	for n := range len(dots) + 1 {
		for _, l := range words(n, "a", "b", "c", "/") {
			var sibs []sib
			for i, v := range l {
				sibs = append(sibs, sib{D: dots[i], V: v})
			}
			all = append(all, of(sibs...))
		}
	}
	return all
}

// P8.1 and P8.2 for all small registers.
func TestSmall(t *testing.T) {
	for _, x := range small() {
		equal(t, fmt.Sprint("Check of ", x), sibling.Check(x), api.OK)
		grouped(t, x, isSame, modelGroups(x, func(string) bool { return true })...)
		shows(t, x, modelAt(x)...)
	}
}

// eachOnce fails the test unless the groups have the dots of x, each of them once, and the greatest one of each group first.
func eachOnce(t *testing.T, x reg, l []group) {
	t.Helper()
	var want, got []api.Dot
	for _, s := range x.L {
		want = append(want, s.D)
	}
	for _, g := range l {
		equal(t, fmt.Sprint("a group of ", x, " has dots"), len(g.Dots) > 0, true)
		equal(t, fmt.Sprint("dots fall in ", g), slices.IsSortedFunc(g.Dots, func(a, b api.Dot) int { return below(b, a) }), true)
		got = append(got, g.Dots...)
	}
	slices.SortFunc(got, below)
	list(t, fmt.Sprint("the dots of ", x), got, want)
}

// apart fails the test unless the names of all that is seen are different.
func apart(t *testing.T, l []seen) {
	t.Helper()
	names := map[string]bool{}
	for i, s := range l {
		equal(t, fmt.Sprint("the name of ", s, " comes again"), names[s.Name], false)
		names[s.Name] = true
		equal(t, fmt.Sprint("conflict of ", s), s.Conflict, i > 0)
		if name, d, is := path.Split(s.Name); s.Conflict {
			equal(t, fmt.Sprint("the conflict name of ", s), is && name == "n" && d == s.G.Dots[0], true)
		}
	}
}

// P8.3: each dot is in one group, and seen at one name, whatever dir and same report; and what was written last has the name, unless there is a directory.
func TestEachOnce(t *testing.T) {
	g := rand.New(rand.NewSource(1))
	any1 := func(string) bool { return g.Intn(2) == 0 }
	any2 := func(a, b string) bool { return g.Intn(3) == 0 }
	for _, x := range small() {
		for _, same := range []func(a, b string) bool{isSame, always, never, near, any2} {
			eachOnce(t, x, groups(x, same))
			for _, dir := range []func(string) bool{isDir, any1, func(string) bool { return false }} {
				l := rank.At(x, "n", dir, same)
				var all []group
				for _, s := range l {
					all = append(all, s.G)
				}
				eachOnce(t, x, all)
				apart(t, l)
				if last := len(x.L) - 1; last >= 0 && !l[0].Dir {
					equal(t, fmt.Sprint("the name of the last one of ", x), l[0].Name, "n")
					equal(t, fmt.Sprint("the dot of the last one of ", x), l[0].G.Dots[0], x.L[last].D)
					equal(t, fmt.Sprint("the value of the last one of ", x), l[0].G.V, x.L[last].V)
				}
			}
		}
	}
}

// written returns the registers of some replicas that wrote apart from each other, and sometimes met.
func written(g *rand.Rand, replicas int) []reg {
	all := make([]reg, replicas)
	for range 3 * replicas {
		r := g.Intn(replicas)
		if g.Intn(3) == 0 {
			if x, e := sibling.Join(all[r], all[g.Intn(replicas)]); e == api.OK {
				all[r] = x
			}
			continue
		}
		var over []api.Dot
		for _, s := range all[r].L {
			if g.Intn(2) == 0 {
				over = append(over, s.D)
			}
		}
		v := []string{"a", "b", "c", "/"}[g.Intn(4)]
		if x, _, e := sibling.Write(all[r], uint8(r), over, v); e == api.OK {
			all[r] = x
		}
	}
	return all
}

// joined returns the join of all, in this order.
func joined(all []reg) (reg, api.Errno) {
	var x reg
	for _, y := range all {
		var e api.Errno
		if x, e = sibling.Join(x, y); e != api.OK {
			return reg{}, e
		}
	}
	return x, api.OK
}

// P8.4: the order of joins makes no difference to what is seen.
func TestOrderOfJoins(t *testing.T) {
	g := rand.New(rand.NewSource(2))
	for n := range 400 {
		all := written(g, 2+n%4)
		x, e := joined(all)
		for range 6 {
			g.Shuffle(len(all), func(i, j int) { all[i], all[j] = all[j], all[i] })
			y, again := joined(all)
			if e != api.OK || again != api.OK {
				continue
			}
			shows(t, y, rank.At(x, "n", isDir, isSame)...)
			shows(t, y, modelAt(x)...)
		}
	}
}

// P8.4: dots and values count alone: a context makes no difference.
func TestContext(t *testing.T) {
	for _, c := range []api.Vector{{}, {1}, {2, 2, 2, 9}, {65535, 65535, 65535, 65535, 65535, 65535, 65535, 65535}, {1 << 31}} {
		x := sample()
		x.C = c
		grouped(t, x, isSame, groups(sample(), isSame)...)
		shows(t, x, rank.At(sample(), "n", isDir, isSame)...)
	}
}

// P8.4: no argument is changed, not even behind the end of a list.
func TestArgumentsStay(t *testing.T) {
	for _, x := range small() {
		room := slices.Concat(x.L, []sib{by(1, 90, "p"), by(2, 91, "/"), by(3, 92, "q")})
		before := slices.Clone(room)
		y := reg{C: x.C, L: room[:len(x.L)]}
		for g := range rank.Groups(y, isSame) {
			clear(g.Dots)
			g.Dots = append(g.Dots, dot(7, 7), dot(7, 8))
		}
		for _, s := range rank.At(y, "n", isDir, isSame) {
			clear(s.G.Dots)
			s.G.Dots = append(s.G.Dots, dot(7, 7), dot(7, 8))
		}
		list(t, "what was given", room, before)
	}
}

// P8.4: results are new memory: what is done to a list of dots is seen in no other one.
func TestNewMemory(t *testing.T) {
	x := of(by(0, 1, "a"), by(1, 1, "/"), by(0, 2, "b"), by(0, 3, "a"), by(1, 4, "/"), by(0, 5, "b"), by(0, 6, "c"))
	spoil := func(d []api.Dot) {
		clear(d[:cap(d)])
		_ = append(d, dot(7, 7), dot(7, 8), dot(7, 9))
	}
	want := groups(x, isSame)
	all := rank.Groups(x, isSame)
	for range 3 {
		n := 0
		for g := range all {
			list(t, "a group", []group{g}, want[n:n+1])
			spoil(g.Dots)
			n++
		}
		equal(t, "groups", n, len(want))
	}
	before, l := rank.At(x, "n", isDir, isSame), rank.At(x, "n", isDir, isSame)
	for i := range l {
		spoil(l[i].G.Dots)
		list(t, "the others", l[i+1:], before[i+1:])
	}
	shows(t, x, before...)
}

// P8.4: Groups produces the groups that there were when it was called; what is done to the register then, or in a loop, or by a function, is no longer seen.
func TestKept(t *testing.T) {
	want := groups(sample(), isSame)
	x := sample()
	all := rank.Groups(x, isSame)
	clear(x.L)
	n := 0
	for g := range all {
		list(t, "after the register was cleared", []group{g}, want[n:n+1])
		n++
	}
	equal(t, "groups", n, len(want))
	x, n = sample(), 0
	for g := range rank.Groups(x, isSame) {
		clear(x.L)
		list(t, "while the register is cleared", []group{g}, want[n:n+1])
		n++
	}
	x = sample()
	grouped(t, x, func(a, b string) bool {
		clear(x.L)
		return a == b
	}, want...)
	x, y := sample(), sample()
	list(t, "At", rank.At(y, "n", func(v string) bool {
		clear(y.L)
		return isDir(v)
	}, isSame), rank.At(x, "n", isDir, isSame))
}

// P8.4: no call panics without functions: nothing is a directory then, and no value is the same as another one.
func TestNoFunctions(t *testing.T) {
	for _, x := range small() {
		grouped(t, x, nil, groups(x, never)...)
		list(t, "At without both", rank.At(x, "n", nil, nil), rank.At(x, "n", func(string) bool { return false }, never))
		list(t, "At without same", rank.At(x, "n", isDir, nil), rank.At(x, "n", isDir, never))
		list(t, "At without dir", rank.At(x, "n", nil, isSame), rank.At(x, "n", func(string) bool { return false }, isSame))
		rank.Groups(x, isSame)(nil)
	}
	rank.Groups[string](reg{}, nil)(nil)
}

// P8.4: a function that panics reports nothing, and is asked again about the others.
func TestFunctionsPanic(t *testing.T) {
	picky := func(a, b string) bool {
		if a == "c" || b == "c" {
			panic(a + b)
		}
		return a == b
	}
	x := of(by(0, 1, "c"), by(0, 2, "a"), by(0, 3, "/"), by(0, 4, "c"), by(0, 5, "a"))
	grouped(t, x, picky, grp("a", dot(0, 5), dot(0, 2)), grp("c", dot(0, 4)), grp("/", dot(0, 3)), grp("c", dot(0, 1)))
	l := rank.At(x, "n", func(v string) bool {
		if v == "a" {
			panic(v)
		}
		return isDir(v)
	}, picky)
	list(t, "At", l, []seen{folder("n", grp("/", dot(0, 3))),
		aside("n~0.5", grp("a", dot(0, 5), dot(0, 2))), aside("n~0.4", grp("c", dot(0, 4))), aside("n~0.1", grp("c", dot(0, 1)))})
}

// P8.4: a panic of the loop is the loop's own, and is not hidden from it.
func TestLoopPanics(t *testing.T) {
	defer func() { equal[any](t, "what the loop panics with", recover(), "own") }()
	for range rank.Groups(sample(), isSame) {
		panic("own")
	}
}

// P8.4: registers that are not valid are no harm: siblings are taken from the last one in the list to the first one.
func TestNotValid(t *testing.T) {
	x := of(by(0, 3, "a"), by(0, 1, "b"), by(0, 1, "a"), by(9, 0, "b"), by(0, 2, "/"))
	equal(t, "Check", sibling.Check(x), api.ErrForm)
	grouped(t, x, isSame, grp("/", dot(0, 2)), grp("b", dot(9, 0), dot(0, 1)), grp("a", dot(0, 1), dot(0, 3)))
	shows(t, x, folder("n", grp("/", dot(0, 2))), aside("", grp("b", dot(9, 0), dot(0, 1))), aside("n~0.1", grp("a", dot(0, 1), dot(0, 3))))
	long := reg{L: make([]sib, 100000)}
	equal(t, "groups of a long one", len(groups(long, isSame)), 1)
	equal(t, "what is seen of a long one", len(rank.At(long, "n", isDir, isSame)[0].G.Dots), 100000)
}
