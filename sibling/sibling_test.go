package sibling_test

import (
	"fmt"
	"math"
	"slices"
	"strings"
	"testing"

	"revert/api"
	"revert/sibling"
)

type (
	reg = sibling.Reg[string]
	sib = sibling.Sib[string]
)

// same fails the test unless got and want are equal.
func same[T comparable](t *testing.T, what string, got, want T) {
	t.Helper()
	if got != want {
		t.Errorf("%s: got %#v, want %#v", what, got, want)
	}
}

// list fails the test unless got and want have the same elements.
func list[T comparable](t *testing.T, what string, got, want []T) {
	t.Helper()
	if !slices.Equal(got, want) {
		t.Errorf("%s: got %v, want %v", what, got, want)
	}
}

// alike fails the test unless got and want have the same context, and the same siblings.
func alike(t *testing.T, what string, got, want reg) {
	t.Helper()
	same(t, what+": the context", got.C, want.C)
	list(t, what+": the siblings", got.L, want.L)
}

// of returns the vector with these numbers, and 0 for the other replicas.
func of(n ...uint32) api.Vector {
	var v api.Vector
	copy(v[:], n)
	return v
}

func dot(r uint8, n uint32) api.Dot { return api.Dot{R: r, N: n} }

func by(r uint8, n uint32, v string) sib { return sib{D: dot(r, n), V: v} }

// with returns a register, valid or not.
func with(c api.Vector, l ...sib) reg { return reg{C: c, L: l} }

// full returns the register that replica 0 has after n Writes over nothing.
func full(n uint32) reg {
	x := reg{C: of(n)}
	for i := range n {
		x.L = append(x.L, by(0, i+1, "v"))
	}
	return x
}

// wrote fails the test unless these are the results of an operation.
func wrote(t *testing.T, what string, got reg, d api.Dot, e api.Errno, want reg, wantD api.Dot) {
	t.Helper()
	alike(t, what, got, want)
	same(t, what+": the dot", d, wantD)
	same(t, what+": the error", e, api.OK)
}

// writes fails the test unless Write returns this.
func writes(t *testing.T, x reg, r uint8, over []api.Dot, v string, want reg, wantD api.Dot) {
	t.Helper()
	got, d, e := sibling.Write(x, r, over, v)
	wrote(t, fmt.Sprint("Write of ", x, " by ", r, " over ", over), got, d, e, want, wantD)
}

// drops fails the test unless Drop returns this.
func drops(t *testing.T, x reg, r uint8, over []api.Dot, want reg, wantD api.Dot) {
	t.Helper()
	got, d, e := sibling.Drop(x, r, over)
	wrote(t, fmt.Sprint("Drop of ", x, " by ", r, " over ", over), got, d, e, want, wantD)
}

// refusesWrite fails the test unless Write returns this error, and nothing else.
func refusesWrite(t *testing.T, x reg, r uint8, over []api.Dot, want api.Errno) {
	t.Helper()
	what := fmt.Sprint("Write of ", x, " by ", r, " over ", over)
	got, d, e := sibling.Write(x, r, over, "z")
	same(t, what, e, want)
	alike(t, what, got, reg{})
	same(t, what, d, dot(0, 0))
}

// refusesDrop fails the test unless Drop returns this error, and nothing else.
func refusesDrop(t *testing.T, x reg, r uint8, over []api.Dot, want api.Errno) {
	t.Helper()
	what := fmt.Sprint("Drop of ", x, " by ", r, " over ", over)
	got, d, e := sibling.Drop(x, r, over)
	same(t, what, e, want)
	alike(t, what, got, reg{})
	same(t, what, d, dot(0, 0))
}

// joins fails the test unless Join of a and b, and of b and a, return this.
func joins(t *testing.T, a, b, want reg, wantE api.Errno) {
	t.Helper()
	for range 2 {
		what := fmt.Sprint("Join of ", a, " and ", b)
		got, e := sibling.Join(a, b)
		same(t, what, e, wantE)
		alike(t, what, got, want)
		a, b = b, a
	}
}

// The chapter's examples.
func TestExamples(t *testing.T) {
	x := with(of(1), by(0, 1, "a"))
	over := []api.Dot{dot(0, 1)}
	writes(t, reg{}, 0, nil, "a", x, dot(0, 1))
	writes(t, x, 1, over, "b", with(of(1, 2), by(1, 2, "b")), dot(1, 2))
	writes(t, x, 1, nil, "b", with(of(1, 2), by(0, 1, "a"), by(1, 2, "b")), dot(1, 2))
	drops(t, x, 1, over, with(of(1, 2)), dot(1, 2))
	b, c := with(of(1, 2), by(1, 2, "b")), with(of(1, 0, 2), by(2, 2, "c"))
	joins(t, b, c, with(of(1, 2, 2), by(1, 2, "b"), by(2, 2, "c")), api.OK)
	joins(t, x, with(of(1, 2)), with(of(1, 2)), api.OK)
	refusesWrite(t, x, 8, nil, api.ErrArg)
	refusesWrite(t, with(of(0, 65535)), 0, nil, api.ErrCount)
	refusesWrite(t, with(of(1), by(0, 2, "a")), 0, nil, api.ErrForm)
}

// valid returns registers that are valid, those at the edges among them.
func valid() []reg {
	var across reg
	for r := range uint8(8) {
		across.C[r] = 5
		across.L = append(across.L, by(r, 5, "v"))
	}
	return []reg{
		{},
		{L: []sib{}},
		with(of(0, 0, 3)),
		with(of(65535, 65535, 65535, 65535, 65535, 65535, 65535, 65535)),
		with(of(0, 0, 0, 0, 0, 0, 0, 65535), by(7, 65535, "v")),
		with(of(1, 1), by(0, 1, "v"), by(1, 1, "v")),
		with(of(2, 1), by(1, 1, "v"), by(0, 2, "v")),
		with(of(9, 9), by(1, 2, "same"), by(1, 3, "same")),
		with(of(300, 2), by(1, 2, "v"), by(0, 256, "v"), by(0, 258, "v")),
		full(8),
		across,
	}
}

// wrong returns registers that are not valid, each for one reason.
func wrong() []reg {
	all := []reg{
		with(of(1), by(0, 2, "v")),
		with(of(1), by(1, 1, "v")),
		with(of(3), by(0, 0, "v")),
		with(of(3), by(0, 0, "v"), by(0, 1, "v")),
		with(of(9, 9, 9, 9, 9, 9, 9, 9), by(8, 1, "v")),
		with(of(9, 9, 9, 9, 9, 9, 9, 9), by(255, 9, "v")),
		with(of(65535), by(0, 65536, "v")),
		with(of(65535), by(0, math.MaxUint32, "v")),
		with(of(1), by(0, 1, "v"), by(0, 1, "v")),
		with(of(2), by(0, 2, "v"), by(0, 1, "v")),
		with(of(1, 1), by(1, 1, "v"), by(0, 1, "v")),
		with(of(2, 1), by(0, 2, "v"), by(1, 1, "v")),
		with(of(3, 3), by(0, 1, "v"), by(0, 3, "v"), by(1, 2, "v")),
		with(of(3, 3), by(0, 1, "v"), by(0, 2, "v"), by(1, 4, "v")),
		full(9),
		full(400),
	}
	for r := range 8 {
		for _, n := range []uint32{65536, 1 << 20, math.MaxUint32} {
			var x reg
			x.C[r] = n
			all = append(all, x)
		}
	}
	return all
}

// P6.1: Check accepts what is valid, and nothing else.
func TestCheck(t *testing.T) {
	for _, x := range valid() {
		same(t, fmt.Sprint("Check of ", x), sibling.Check(x), api.OK)
	}
	for _, x := range wrong() {
		same(t, fmt.Sprint("Check of ", x), sibling.Check(x), api.ErrForm)
	}
}

// P6.1: every subset of the dots of a context is valid in order, and in no other order.
func TestCheckOrder(t *testing.T) {
	l := []sib{by(0, 1, "v"), by(3, 1, "v"), by(7, 1, "v"), by(3, 2, "v"), by(0, 3, "v"), by(7, 3, "v")}
	c := of(3, 0, 0, 2, 0, 0, 0, 3)
	for i := range l {
		for j := range l {
			want := api.ErrForm
			if i < j {
				want = api.OK
			}
			same(t, fmt.Sprint("Check of ", l[i], l[j]), sibling.Check(with(c, l[i], l[j])), want)
		}
	}
	same(t, "Check of all", sibling.Check(with(c, l...)), api.OK)
}

// P6.1: a Write removes exactly the siblings whose dots are named, whatever else is named, and in whatever order.
func TestWrite(t *testing.T) {
	x := with(of(4, 3, 2), by(2, 2, "a"), by(1, 3, "b"), by(0, 4, "c"))
	c := of(4, 3, 2, 0, 0, 5)
	last := by(5, 5, "d")
	odd := []api.Dot{dot(0, 4), dot(2, 2), dot(0, 4), dot(0, 0), dot(9, 4), dot(2, 3), dot(5, 5), dot(0, 70000)}
	writes(t, x, 5, nil, "d", with(c, x.L[0], x.L[1], x.L[2], last), last.D)
	writes(t, x, 5, []api.Dot{}, "d", with(c, x.L[0], x.L[1], x.L[2], last), last.D)
	writes(t, x, 5, []api.Dot{dot(1, 3)}, "d", with(c, x.L[0], x.L[2], last), last.D)
	writes(t, x, 5, odd, "d", with(c, x.L[1], last), last.D)
	writes(t, x, 5, []api.Dot{dot(0, 4), dot(1, 3), dot(2, 2)}, "d", with(c, last), last.D)
	writes(t, x, 2, []api.Dot{dot(2, 2)}, "d", with(of(4, 3, 5), x.L[1], x.L[2], by(2, 5, "d")), dot(2, 5))
	writes(t, with(of(9, 9)), 0, nil, "", with(of(10, 9), by(0, 10, "")), dot(0, 10))
	writes(t, with(of(65534)), 7, nil, "v", with(of(65534, 0, 0, 0, 0, 0, 0, 65535), by(7, 65535, "v")), dot(7, 65535))
}

// P6.1: a Drop removes exactly the siblings whose dots are named, and adds none; its dot counts all the same.
func TestDrop(t *testing.T) {
	x := with(of(4, 3, 2), by(2, 2, "a"), by(1, 3, "b"), by(0, 4, "c"))
	c := of(4, 3, 2, 0, 0, 5)
	odd := []api.Dot{dot(0, 4), dot(2, 2), dot(0, 4), dot(0, 0), dot(9, 4), dot(2, 3), dot(5, 5), dot(0, 70000)}
	drops(t, x, 5, nil, with(c, x.L...), dot(5, 5))
	drops(t, x, 5, []api.Dot{dot(1, 3)}, with(c, x.L[0], x.L[2]), dot(5, 5))
	drops(t, x, 5, odd, with(c, x.L[1]), dot(5, 5))
	drops(t, x, 0, []api.Dot{dot(0, 4), dot(1, 3), dot(2, 2)}, with(of(5, 3, 2)), dot(0, 5))
	drops(t, reg{}, 7, nil, with(of(0, 0, 0, 0, 0, 0, 0, 1)), dot(7, 1))
}

// P6.1: there may be 8 siblings after a Write; those that it removes don't count.
func TestWriteFull(t *testing.T) {
	writes(t, full(7), 0, nil, "v", full(8), dot(0, 8))
	refusesWrite(t, full(8), 0, nil, api.ErrFull)
	refusesWrite(t, full(8), 1, []api.Dot{dot(0, 9), dot(1, 1)}, api.ErrFull)
	for i := range 8 {
		x := full(8)
		want := with(of(8, 9), append(slices.Delete(full(8).L, i, i+1), by(1, 9, "z"))...)
		writes(t, x, 1, []api.Dot{x.L[i].D}, "z", want, dot(1, 9))
	}
	drops(t, full(8), 1, nil, with(of(8, 9), full(8).L...), dot(1, 9))
}

// P6.1: a register that is not valid comes first, then what vector.Next returns, and last that there are too many siblings.
func TestWriteErrors(t *testing.T) {
	for _, x := range wrong() {
		for _, r := range []uint8{0, 7, 8, 255} {
			refusesWrite(t, x, r, nil, api.ErrForm)
			refusesDrop(t, x, r, nil, api.ErrForm)
		}
	}
	last := full(8)
	last.C = of(8, 0, 65535)
	for _, x := range append(valid(), last) {
		for _, r := range []uint8{8, 9, 128, 255} {
			refusesWrite(t, x, r, nil, api.ErrArg)
			refusesDrop(t, x, r, nil, api.ErrArg)
		}
	}
	for r := range uint8(8) {
		refusesWrite(t, last, r, nil, api.ErrCount)
		refusesDrop(t, last, r, nil, api.ErrCount)
		refusesWrite(t, with(of(65535)), r, nil, api.ErrCount)
		refusesDrop(t, with(of(65535)), r, nil, api.ErrCount)
	}
	// What would be removed does not make a register valid.
	refusesWrite(t, full(9), 0, []api.Dot{dot(0, 1), dot(0, 2)}, api.ErrForm)
	refusesDrop(t, with(of(1), by(0, 2, "v")), 0, []api.Dot{dot(0, 2)}, api.ErrForm)
}

// P6.2: what one side knows and does not have is gone; what it does not know stays; all is in order.
func TestJoin(t *testing.T) {
	a := with(of(5, 2, 3), by(0, 1, "a"), by(1, 1, "b"), by(2, 3, "c"), by(0, 5, "d"))
	b := with(of(4, 3, 1), by(0, 1, "a"), by(2, 1, "e"), by(0, 2, "f"), by(1, 2, "g"), by(1, 3, "h"))
	joins(t, a, b, with(of(5, 3, 3), by(0, 1, "a"), by(1, 3, "h"), by(2, 3, "c"), by(0, 5, "d")), api.OK)
	joins(t, a, reg{}, a, api.OK)
	joins(t, reg{}, reg{}, reg{}, api.OK)
	joins(t, a, with(of(5, 5, 5)), with(of(5, 5, 5)), api.OK)
	joins(t, a, with(of(0, 0, 0, 9)), with(of(5, 2, 3, 9), a.L...), api.OK)
	for _, x := range valid() {
		joins(t, x, x, x, api.OK)
	}
}

// P6.2: the value of a dot that both have is that of a.
func TestJoinValue(t *testing.T) {
	a, b := with(of(1), by(0, 1, "a")), with(of(1, 1), by(0, 1, "b"))
	for range 2 {
		got, e := sibling.Join(a, b)
		same(t, "the error", e, api.OK)
		alike(t, "Join", got, with(of(1, 1), by(0, 1, a.L[0].V)))
		a, b = b, a
	}
}

// P6.2: there may be 8 siblings after a Join; those that it removes, and those that both have, don't count.
func TestJoinFull(t *testing.T) {
	four, five := full(4), full(5)
	other := with(of(0, 4), by(1, 1, "w"), by(1, 2, "w"), by(1, 3, "w"), by(1, 4, "w"))
	all := reg{C: of(4, 4)}
	for i := range 4 {
		all.L = append(all.L, four.L[i], other.L[i])
	}
	joins(t, four, other, all, api.OK)
	joins(t, five, other, reg{}, api.ErrFull)
	joins(t, full(8), full(8), full(8), api.OK)
	joins(t, full(8), full(7), full(8), api.OK)
	joins(t, full(8), with(of(1, 9), by(1, 9, "z")), with(of(8, 9), append(full(8).L[1:], by(1, 9, "z"))...), api.OK)
	joins(t, full(8), with(of(0, 1), by(1, 1, "z")), reg{}, api.ErrFull)
}

// P6.2: both registers must be valid, and that comes first.
func TestJoinErrors(t *testing.T) {
	for _, x := range wrong() {
		for _, y := range append(valid(), wrong()...) {
			joins(t, x, y, reg{}, api.ErrForm)
		}
	}
}

// some returns registers, valid or not, to which Lost, Same, Map and All apply as well.
func some() []reg { return append(valid(), wrong()...) }

// P6.3: what is lost is in the order of the old register, valid or not, and it is the dots that count.
func TestLost(t *testing.T) {
	old := with(of(3, 3), by(0, 1, "a"), by(1, 2, "b"), by(0, 3, "a"))
	list(t, "all", sibling.Lost(old, reg{}), old.L)
	list(t, "none", sibling.Lost(old, old), nil)
	list(t, "of none", sibling.Lost(reg{}, old), nil)
	list(t, "the middle one", sibling.Lost(old, with(of(), by(0, 3, "x"), by(0, 1, "y"), by(7, 7, "b"))), old.L[1:2])
	list(t, "the others", sibling.Lost(old, with(of(9, 9), by(1, 2, "a"))), []sib{old.L[0], old.L[2]})
	list(t, "the value stays at another dot", sibling.Lost(old, with(of(4, 4), by(0, 4, "a"), by(1, 1, "b"))), old.L)
	list(t, "a known context", sibling.Lost(old, with(of(9, 9))), old.L)
	odd := with(of(70000), by(0, 5, "a"), by(9, 0, "b"), by(0, 2, "c"), by(0, 5, "d"), by(0, 2, "e"))
	list(t, "not valid", sibling.Lost(odd, with(of(), by(9, 0, "x"), by(0, 2, "y"))), []sib{odd.L[0], odd.L[3]})
	for _, x := range some() {
		list(t, fmt.Sprint("all of ", x), sibling.Lost(x, reg{C: x.C}), x.L)
		list(t, fmt.Sprint("none of ", x), sibling.Lost(x, x), nil)
	}
}

// P6.3: long lists are no harm.
func TestLostLong(t *testing.T) {
	old, now := full(200000), full(200000)
	slices.Reverse(now.L)
	now.L[100000] = by(1, 1, "v")
	list(t, "Lost", sibling.Lost(old, now), []sib{by(0, 100000, "v")})
}

// P6.3: contexts and dots must be equal, one by one; values make no difference.
func TestSame(t *testing.T) {
	for i, x := range some() {
		other := reg{C: x.C}
		for _, s := range x.L {
			other.L = append(other.L, sib{D: s.D, V: "another"})
		}
		same(t, fmt.Sprint("Same of ", x, other), sibling.Same(x, other), true)
		for j, y := range some() {
			want := i == j || i+j == 1 // the first two are the same one
			same(t, fmt.Sprint("Same of ", x, y), sibling.Same(x, y), want)
		}
	}
	x := with(of(2, 2), by(0, 1, "a"), by(1, 2, "b"))
	for _, y := range []reg{
		with(of(2, 2), by(0, 1, "a")),
		with(of(2, 2), by(1, 2, "b")),
		with(of(2, 2), by(1, 2, "b"), by(0, 1, "a")),
		with(of(2, 2), by(0, 1, "a"), by(0, 2, "b")),
		with(of(2, 2), by(0, 1, "a"), by(1, 1, "b")),
		with(of(2, 2), by(0, 1, "a"), by(1, 2, "b"), by(1, 3, "c")),
		with(of(2, 2, 0, 0, 0, 0, 0, 1), by(0, 1, "a"), by(1, 2, "b")),
		with(of(2, 2)),
	} {
		same(t, fmt.Sprint("Same of ", x, y), sibling.Same(x, y), false)
		same(t, fmt.Sprint("Same of ", y, x), sibling.Same(y, x), false)
	}
}

// P6.3: Map calls f for each value, in order, and keeps all else.
func TestMap(t *testing.T) {
	for _, x := range some() {
		var seen []string
		y := sibling.Map(x, func(v string) int {
			seen = append(seen, v)
			return len(seen)
		})
		same(t, fmt.Sprint("context of Map of ", x), y.C, x.C)
		same(t, fmt.Sprint("siblings of Map of ", x), len(y.L), len(x.L))
		same(t, fmt.Sprint("calls of Map of ", x), len(seen), len(x.L))
		for i, s := range x.L {
			same(t, fmt.Sprint("Map of ", x), y.L[i], sibling.Sib[int]{D: s.D, V: i + 1})
			same(t, fmt.Sprint("a call of Map of ", x), seen[i], s.V)
		}
	}
	x := with(of(2), by(0, 1, "a"), by(0, 2, "b"))
	alike(t, "Map", sibling.Map(x, strings.ToUpper), with(of(2), by(0, 1, "A"), by(0, 2, "B")))
}

// seen returns what All produces of x.
func seen(x reg) []sib {
	var l []sib
	for d, v := range sibling.All(x) {
		l = append(l, sib{D: d, V: v})
	}
	return l
}

// P6.3: All goes through the siblings in order, and again if it is ranged over again.
func TestAll(t *testing.T) {
	for _, x := range some() {
		list(t, fmt.Sprint("All of ", x), seen(x), x.L)
		all := sibling.All(x)
		for range 2 {
			n := 0
			for d, v := range all {
				same(t, fmt.Sprint("All of ", x), sib{D: d, V: v}, x.L[n])
				n++
			}
			same(t, fmt.Sprint("number of All of ", x), n, len(x.L))
		}
	}
}

// P6.3: a loop over All may end at any time.
func TestAllEnds(t *testing.T) {
	x := full(5)
	for stop := range 5 {
		n := 0
		sibling.All(x)(func(d api.Dot, v string) bool {
			same(t, "All", sib{D: d, V: v}, x.L[n])
			n++
			return n <= stop
		})
		same(t, "loops", n, stop+1)
	}
}

// copied returns x in new memory.
func copied(x reg) reg { return reg{C: x.C, L: slices.Clone(x.L)} }

// P6.6: no function changes its arguments, not even behind the end of a list.
func TestArgumentsStay(t *testing.T) {
	for _, x := range some() {
		for _, y := range some() {
			// Three more siblings lie behind the end of each list, where an append would change them.
			room := func(z reg) ([]sib, reg) {
				l := slices.Concat(z.L, []sib{by(1, 1, "p"), by(2, 2, "q"), by(3, 3, "r")})
				return l, reg{C: z.C, L: l[:len(z.L)]}
			}
			xl, a := room(x)
			yl, b := room(y)
			over := []api.Dot{dot(0, 2), dot(0, 1), dot(0, 2)}
			before, beforeY := slices.Clone(xl), slices.Clone(yl)
			sibling.Check(a)
			sibling.Write(a, 1, over, "z")
			sibling.Drop(a, 1, over)
			sibling.Join(a, b)
			sibling.Lost(a, b)
			sibling.Same(a, b)
			sibling.Map(a, strings.ToUpper)
			seen(a)
			list(t, fmt.Sprint("what ", x, " was"), xl, before)
			list(t, fmt.Sprint("what ", y, " was"), yl, beforeY)
			list(t, "over", over, []api.Dot{dot(0, 2), dot(0, 1), dot(0, 2)})
		}
	}
}

// P6.6: results are new memory: what is done to one is not seen in an argument, nor the other way round.
func TestNewMemory(t *testing.T) {
	old := with(of(3, 3), by(0, 1, "a"), by(1, 2, "b"), by(0, 3, "c"))
	makers := map[string]func(x reg) []sib{
		"Write": func(x reg) []sib { y, _, _ := sibling.Write(x, 0, nil, "d"); return y.L },
		"Drop":  func(x reg) []sib { y, _, _ := sibling.Drop(x, 0, nil); return y.L },
		"Join":  func(x reg) []sib { y, _ := sibling.Join(x, reg{}); return y.L },
		"joined": func(x reg) []sib {
			y, _ := sibling.Join(reg{}, x)
			return y.L
		},
		"itself": func(x reg) []sib { y, _ := sibling.Join(x, x); return y.L },
		"Lost":   func(x reg) []sib { return sibling.Lost(x, reg{}) },
		"Map":    func(x reg) []sib { return sibling.Map(x, strings.Clone).L },
	}
	for name, maker := range makers {
		x := copied(old)
		l := maker(x)
		want := slices.Clone(l)
		clear(x.L)
		list(t, name+" after its argument was cleared", l, want)
		x = copied(old)
		l = maker(x)
		clear(l)
		list(t, "the argument after the result of "+name+" was cleared", x.L, old.L)
		again := append(maker(x), by(7, 7, "y"))
		list(t, "the argument after an append to "+name, x.L, old.L)
		same(t, "what was appended to "+name, again[len(again)-1], by(7, 7, "y"))
	}
}

// P6.6: All and Map go through what there was when they were called.
func TestKept(t *testing.T) {
	old := with(of(3, 3), by(0, 1, "a"), by(1, 2, "b"), by(0, 3, "c"))
	x := copied(old)
	all := sibling.All(x)
	clear(x.L)
	n := 0
	for d, v := range all {
		same(t, "All after its argument was cleared", sib{D: d, V: v}, old.L[n])
		n++
	}
	same(t, "number of All", n, 3)
	x, n = copied(old), 0
	for d, v := range sibling.All(x) {
		clear(x.L)
		same(t, "All while its argument is cleared", sib{D: d, V: v}, old.L[n])
		n++
	}
	x = copied(old)
	y := sibling.Map(x, func(v string) string {
		clear(x.L)
		return v
	})
	alike(t, "Map while its argument is cleared", y, old)
}
