package sibling_test

import (
	"fmt"
	"math/rand"
	"slices"
	"testing"

	"revert/api"
	"revert/sibling"
)

// P6.6: no call panics, whatever the functions are that it is given.
func TestNoPanic(t *testing.T) {
	for _, x := range some() {
		y := sibling.Map[string, int](x, nil)
		same(t, fmt.Sprint("Map of ", x, " with nil"), sibling.Same(y, sibling.Map(x, func(string) int { return 1 })), true)
		for _, s := range y.L {
			same(t, "a value of no function", s.V, 0)
		}
		sibling.All(x)(nil)
	}
}

// P6.6: a function that panics gives no value, and the others have theirs.
func TestMapPanics(t *testing.T) {
	x := with(of(3), by(0, 1, "a"), by(0, 2, "b"), by(0, 3, "c"))
	y := sibling.Map(x, func(v string) string {
		if v == "b" {
			panic(v)
		}
		return v + v
	})
	alike(t, "Map", y, with(of(3), by(0, 1, "aa"), by(0, 2, ""), by(0, 3, "cc")))
}

// P6.1 to P6.3 hold for values that can't be compared, too.
func TestAnyValue(t *testing.T) {
	type lists = sibling.Reg[[]int]
	x, _, e := sibling.Write(lists{}, 3, nil, []int{1, 2})
	same(t, "Write", e, api.OK)
	y, d, e := sibling.Write(x, 4, nil, nil)
	same(t, "Write", e, api.OK)
	same(t, "the dot", d, dot(4, 2))
	both, e := sibling.Join(x, y)
	same(t, "Join", e, api.OK)
	same(t, "Same", sibling.Same(both, y), true)
	same(t, "Lost", len(sibling.Lost(x, y)), 0)
	lens := sibling.Map(both, func(l []int) string { return fmt.Sprint(len(l)) })
	alike(t, "Map", lens, with(of(0, 0, 0, 1, 2), by(3, 1, "2"), by(4, 2, "0")))
}

// operation is a Write or a Drop, as everyone knows it who knows it at all.
type operation struct {
	d       api.Dot
	write   bool
	v       string
	removed []api.Dot // the dots that it named while siblings of its replica had them
}

// side is a replica's register, and the operations that it knows.
type side struct {
	x     reg
	known map[int]bool
}

// history is all operations, and the replicas that know some of them each.
type history struct {
	all   []operation
	sides [8]side
	seen  map[api.Vector]reg
}

func newHistory() *history {
	h := &history{seen: map[api.Vector]reg{}}
	for r := range h.sides {
		h.sides[r].known = map[int]bool{}
	}
	return h
}

// model returns the register that represents the operations that are known.
func (h *history) model(known map[int]bool) reg {
	var x reg
	gone := map[api.Dot]bool{}
	for i := range known {
		o := h.all[i]
		x.C[o.d.R] = max(x.C[o.d.R], o.d.N)
		for _, d := range o.removed {
			gone[d] = true
		}
	}
	for i := range known {
		if o := h.all[i]; o.write && !gone[o.d] {
			x.L = append(x.L, sib{D: o.d, V: o.v})
		}
	}
	slices.SortFunc(x.L, func(a, b sib) int {
		if a.D.N != b.D.N {
			return int(a.D.N) - int(b.D.N)
		}
		return int(a.D.R) - int(b.D.R)
	})
	return x
}

// named returns dots to be removed: some that siblings have, and some that they need not have.
func (h *history) named(g *rand.Rand, x reg) []api.Dot {
	var over []api.Dot
	for _, s := range x.L {
		if g.Intn(3) > 0 {
			over = append(over, s.D)
		}
	}
	if len(h.all) > 0 && g.Intn(2) == 0 {
		over = append(over, h.all[g.Intn(len(h.all))].d)
	}
	g.Shuffle(len(over), func(i, j int) { over[i], over[j] = over[j], over[i] })
	return over
}

// operate makes a replica write, or drop.
func (h *history) operate(t *testing.T, g *rand.Rand, r int) {
	t.Helper()
	own := &h.sides[r]
	over := h.named(g, own.x)
	o := operation{write: g.Intn(4) > 0, v: fmt.Sprint("v", len(h.all))}
	for _, s := range own.x.L {
		if slices.Contains(over, s.D) {
			o.removed = append(o.removed, s.D)
		}
	}
	var x reg
	var e api.Errno
	if o.write {
		x, o.d, e = sibling.Write(own.x, uint8(r), over, o.v)
	} else {
		x, o.d, e = sibling.Drop(own.x, uint8(r), over)
	}
	if o.write && len(own.x.L)-len(o.removed) >= 8 {
		same(t, "a Write of too many", e, api.ErrFull)
		return
	}
	same(t, "an operation", e, api.OK)
	own.known[len(h.all)] = true
	h.all = append(h.all, o)
	own.x = x
	if o.write {
		greatest(t, x, o.d)
	}
}

// greatest fails the test unless d is above all other dots of x. (P6.6)
func greatest(t *testing.T, x reg, d api.Dot) {
	t.Helper()
	same(t, "the last dot", x.L[len(x.L)-1].D, d)
	for _, s := range x.L[:len(x.L)-1] {
		same(t, fmt.Sprint(d, " above ", s.D), s.D.N < d.N, true)
	}
	for _, n := range x.C {
		same(t, fmt.Sprint(d, " above ", x.C), n <= d.N, true)
	}
}

// meet makes a replica learn what another one knows.
func (h *history) meet(t *testing.T, r, q int) {
	t.Helper()
	own := &h.sides[r]
	both := map[int]bool{}
	for _, s := range []side{*own, h.sides[q]} {
		for i := range s.known {
			both[i] = true
		}
	}
	x, e := sibling.Join(own.x, h.sides[q].x)
	if len(h.model(both).L) > 8 {
		same(t, "a Join of too many", e, api.ErrFull)
		return
	}
	same(t, "a Join", e, api.OK)
	*own = side{x: x, known: both}
}

// look fails the test unless the register of a replica is what the model says, and what others with its context have.
func (h *history) look(t *testing.T, r int) {
	t.Helper()
	x := h.sides[r].x
	alike(t, fmt.Sprint("replica ", r), x, h.model(h.sides[r].known))
	same(t, fmt.Sprint("Check of ", x), sibling.Check(x), api.OK)
	if y, is := h.seen[x.C]; is {
		alike(t, fmt.Sprint("with the context ", x.C), x, y)
		same(t, fmt.Sprint("Same with the context ", x.C), sibling.Same(x, y), true)
	}
	h.seen[x.C] = x
}

// run returns a history of random operations, by some replicas.
func run(t *testing.T, seed int64, replicas, steps int) *history {
	t.Helper()
	g := rand.New(rand.NewSource(seed))
	h := newHistory()
	for range steps {
		r := g.Intn(replicas)
		if g.Intn(2) == 0 {
			h.operate(t, g, r)
		} else {
			h.meet(t, r, g.Intn(replicas))
		}
		h.look(t, r)
	}
	return h
}

// P6.4 and P6.6: a register represents what is known, the same for all that know the same, and what is written has the greatest dot.
func TestHistories(t *testing.T) {
	for seed := range int64(60) {
		run(t, seed, 2+int(seed)%7, 150)
	}
}

// P6.5: Join is commutative, associative and idempotent for the registers of one history.
func TestHistoryLaws(t *testing.T) {
	for seed := range int64(6) {
		h := run(t, 100+seed, 8, 120)
		var all []reg
		for _, s := range h.sides {
			all = append(all, s.x)
		}
		laws(t, all)
	}
}

// laws fails the test unless Join is commutative, associative and idempotent for these registers.
func laws(t *testing.T, all []reg) {
	t.Helper()
	for _, a := range all {
		joins(t, a, a, a, api.OK)
		for _, b := range all {
			ab, e1 := sibling.Join(a, b)
			ba, e2 := sibling.Join(b, a)
			same(t, fmt.Sprint("Join of ", a, b, " and of ", b, a), e1, e2)
			alike(t, fmt.Sprint("Join of ", a, b, " and of ", b, a), ab, ba)
			for _, c := range all {
				bc, e3 := sibling.Join(b, c)
				left, e4 := sibling.Join(ab, c)
				right, e5 := sibling.Join(a, bc)
				if e1 == api.OK && e3 == api.OK && e4 == api.OK && e5 == api.OK {
					alike(t, fmt.Sprint("Join of ", a, b, c), left, right)
				}
			}
		}
	}
}

// small returns all valid registers of two replicas with numbers below 3.
func small() []reg {
	var all []reg
	for n := range uint32(9) {
		c := of(0, n%3, 0, 0, 0, n/3)
		parts := []reg{{C: c}}
		for _, d := range []api.Dot{dot(1, 1), dot(5, 1), dot(1, 2), dot(5, 2)} {
			if d.N > c[d.R] {
				continue
			}
			for _, x := range parts {
				l := append(slices.Clone(x.L), by(d.R, d.N, fmt.Sprint(d)))
				parts = append(parts, reg{C: c, L: l})
			}
		}
		all = append(all, parts...)
	}
	return all
}

// wanted returns what P6.2 says of Join: the dots, in order, that both have, or one has and the other doesn't know.
func wanted(a, b reg) reg {
	var x reg
	for r := range x.C {
		x.C[r] = max(a.C[r], b.C[r])
	}
	for _, d := range []api.Dot{dot(1, 1), dot(5, 1), dot(1, 2), dot(5, 2)} {
		s := by(d.R, d.N, fmt.Sprint(d))
		inA, inB := slices.Contains(a.L, s), slices.Contains(b.L, s)
		if inA && inB || inA && d.N > b.C[d.R] || inB && d.N > a.C[d.R] {
			x.L = append(x.L, s)
		}
	}
	return x
}

// P6.2 and P6.5: Join of any two valid registers, and its laws for any three of them.
func TestSmall(t *testing.T) {
	all := small()
	same(t, "registers", len(all), 49)
	for _, a := range all {
		for _, b := range all {
			joins(t, a, b, wanted(a, b), api.OK)
		}
	}
	laws(t, all)
}

// P6.6: a Write returns the greatest dot of its register, whatever the register is.
func TestWriteIsGreatest(t *testing.T) {
	for _, x := range append(valid(), small()...) {
		for r := range uint8(8) {
			for _, over := range [][]api.Dot{nil, {dot(0, 1)}, {dot(1, 1), dot(5, 2)}} {
				if y, d, e := sibling.Write(x, r, over, "z"); e == api.OK {
					greatest(t, y, d)
					same(t, "whose dot", d.R, r)
					same(t, fmt.Sprint("Check of ", y), sibling.Check(y), api.OK)
				}
			}
		}
	}
}
