package space_test

import (
	"fmt"
	"math/rand"
	"slices"
	"testing"

	"revert/api"
	"revert/space"
)

// model is a space as the chapter defines it: for each managed block, whether it is free.
type model struct {
	from, n int
	free    map[int]bool
}

// newModel returns a model in which all blocks are free.
func newModel(from, n int) *model {
	m := &model{from, n, map[int]bool{}}
	for at := from; at < n; at++ {
		m.free[at] = true
	}
	return m
}

// blocks returns the managed blocks that are free, or those that are used, ascending.
func (m *model) blocks(free bool) []int {
	var l []int
	for at := m.from; at < m.n; at++ {
		if m.free[at] == free {
			l = append(l, at)
		}
	}
	return l
}

// take is Take, word by word.
func (m *model) take() (int, api.Errno) {
	l := m.blocks(true)
	if len(l) == 0 {
		return 0, api.ErrFull
	}
	m.free[l[0]] = false
	return l[0], api.OK
}

// turn is Use and Give, word by word: the block becomes free, or used, or it is so already, which is the error.
func (m *model) turn(at int, free bool, already api.Errno) api.Errno {
	is, managed := m.free[at]
	if !managed {
		return api.ErrArg
	}
	if is == free {
		return already
	}
	m.free[at] = free
	return api.OK
}

// copy returns a model of its own.
func (m *model) copy() *model {
	x := newModel(m.from, m.n)
	for at, free := range m.free {
		x.free[at] = free
	}
	return x
}

// someSpan returns a first block and a number behind the last one; often there are few blocks between them.
func someSpan(g *rand.Rand) (from, n int) {
	n = 1 + g.Intn(2048)
	if g.Intn(3) == 0 {
		return g.Intn(n), n
	}
	return max(0, n-1-g.Intn(80)), n
}

// someBlock returns a number that is mostly a managed block.
func someBlock(g *rand.Rand, m *model) int {
	if g.Intn(8) == 0 {
		return []int{-1, 0, m.from - 1, m.from, m.n - 1, m.n, m.n + 64, g.Intn(5000) - 1000}[g.Intn(8)]
	}
	return m.from + g.Intn(m.n-m.from)
}

// step makes one call of the space and of the model, and holds the answers against each other.
func step(t *testing.T, g *rand.Rand, s *space.Space, m *model) {
	t.Helper()
	at := someBlock(g, m)
	switch g.Intn(3) {
	case 0:
		k, e := s.Take()
		mk, me := m.take()
		same(t, "error of Take", e, me)
		same(t, "Take", k, mk)
	case 1:
		same(t, fmt.Sprint("Use of ", at), s.Use(at), m.turn(at, false, api.ErrThere))
	default:
		same(t, fmt.Sprint("Give of ", at), s.Give(at), m.turn(at, true, api.ErrNone))
	}
}

// agree ends the test unless the space is what the model is.
func agree(t *testing.T, what string, s *space.Space, m *model) {
	t.Helper()
	free := m.blocks(true)
	alike(t, what+": All", slices.Collect(s.All()), free)
	same(t, what+": Count", s.Count(), len(free))
	for at := m.from - 70; at < m.n+70; at++ {
		same(t, fmt.Sprint(what, ": Free of ", at), s.Free(at), m.free[at])
	}
}

// P15.2, P15.3: any calls, held against the model.
func TestModel(t *testing.T) {
	g := rand.New(rand.NewSource(151))
	for range 300 {
		from, n := someSpan(g)
		s, m := fresh(t, from, n), newModel(from, n)
		for range 20 + g.Intn(300) {
			step(t, g, s, m)
			at := someBlock(g, m)
			same(t, fmt.Sprint("Free of ", at), s.Free(at), m.free[at])
			same(t, "Count", s.Count(), len(m.blocks(true)))
		}
		agree(t, fmt.Sprint(from, " to ", n), s, m)
	}
}

// P15.4: what is taken was free, and no block below it is; it is not taken again until it is given.
func TestTakenOnce(t *testing.T) {
	g := rand.New(rand.NewSource(154))
	for range 300 {
		from, n := someSpan(g)
		s := fresh(t, from, n)
		held := map[int]bool{} // what was taken or used, and not given since
		for range 20 + g.Intn(300) {
			at := from + g.Intn(n-from)
			switch g.Intn(4) {
			case 0:
				if s.Use(at) == api.OK {
					same(t, "it was held", held[at], false)
					held[at] = true
				}
			case 1:
				same(t, "it is given", s.Give(at) == api.OK, held[at])
				delete(held, at)
			default:
				before := s.Copy()
				k, e := s.Take()
				same(t, "Take is full", e == api.ErrFull, len(held) == n-from)
				if e != api.OK {
					continue
				}
				same(t, "it was held", held[k], false)
				same(t, "it was free", before.Free(k), true)
				for below := from; below < k; below++ {
					same(t, "one below was free", before.Free(below), false)
				}
				held[k] = true
			}
			same(t, "Count", s.Count(), n-from-len(held))
		}
	}
}

// P15.3, P15.4: copies go their own ways, as the models do.
func TestCopies(t *testing.T) {
	g := rand.New(rand.NewSource(153))
	for range 60 {
		from, n := someSpan(g)
		l, models := []*space.Space{fresh(t, from, n)}, []*model{newModel(from, n)}
		for range 200 {
			i := g.Intn(len(l))
			if len(l) < 6 && g.Intn(20) == 0 {
				l, models = append(l, l[i].Copy()), append(models, models[i].copy())
				continue
			}
			step(t, g, l[i], models[i])
		}
		for i, s := range l {
			agree(t, fmt.Sprint("the space ", i), s, models[i])
		}
	}
}

// P15.5: Load of the used blocks, in any order, is the same space, and stays the same under the same calls.
func TestLoadIsTheSame(t *testing.T) {
	g := rand.New(rand.NewSource(155))
	for range 150 {
		from, n := someSpan(g)
		s, m := fresh(t, from, n), newModel(from, n)
		for range g.Intn(400) {
			step(t, g, s, m)
		}
		used := m.blocks(false)
		g.Shuffle(len(used), func(i, j int) { used[i], used[j] = used[j], used[i] })
		x := loaded(t, from, n, used...)
		agree(t, "the Load", x, m)
		alike(t, "All of both", slices.Collect(x.All()), slices.Collect(s.All()))
		seed := g.Int63()
		for _, y := range []*space.Space{s, x} {
			calls, own := rand.New(rand.NewSource(seed)), m.copy()
			for range 100 {
				step(t, calls, y, own)
			}
			agree(t, "after the same calls", y, own)
		}
	}
}

// P15.3: while a loop goes on, calls change what it comes to, as the model says.
func TestLoopsWithCalls(t *testing.T) {
	g := rand.New(rand.NewSource(156))
	for range 300 {
		from, n := someSpan(g)
		s, m := fresh(t, from, n), newModel(from, n)
		for range g.Intn(200) {
			step(t, g, s, m)
		}
		next, most := from, 1+g.Intn(n-from)
		for at := range s.All() {
			for next < at {
				same(t, fmt.Sprint("left out: ", next, " is free"), m.free[next], false)
				next++
			}
			same(t, "produced", at, next)
			same(t, "it is free", m.free[at], true)
			next++
			for range g.Intn(4) {
				step(t, g, s, m)
			}
			if most--; most == 0 {
				break
			}
		}
		if most > 0 { // the loop came to its end by itself
			for ; next < n; next++ {
				same(t, fmt.Sprint("left out: ", next, " is free"), m.free[next], false)
			}
		}
		agree(t, "after the loop", s, m)
	}
}
