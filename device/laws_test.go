package device_test

import (
	"fmt"
	"math/rand"
	"slices"
	"strings"
	"testing"

	"revert/api"
	"revert/device"
)

// model is a device, word by word as the chapter defines it.
type model struct {
	firm, fresh []string
	is          []bool // which blocks have fresh bytes
}

// newModel returns a model with n blocks.
func newModel(n int) *model {
	m := &model{make([]string, n), make([]string, n), make([]bool, n)}
	for at := range n {
		m.firm[at] = full("")
	}
	return m
}

// read returns what is read of a block.
func (m *model) read(at int) string {
	if m.is[at] {
		return m.fresh[at]
	}
	return m.firm[at]
}

// end makes nothing fresh, and returns how many blocks were; left tells what is left of the i-th one.
func (m *model) end(left func(i, at int) string) int {
	n := 0
	for at, is := range m.is {
		if is {
			m.firm[at], m.is[at] = left(n, at), false
			n++
		}
	}
	return n
}

// flush makes all fresh bytes firm.
func (m *model) flush() int {
	return m.end(func(i, at int) string { return m.fresh[at] })
}

// crash tears the fresh bytes.
func (m *model) crash(choices []int) {
	m.end(func(i, at int) string {
		k := 0
		if len(choices) > 0 {
			k = choices[i%len(choices)]
			for ; k < 0; k += 66 {
			}
			for ; k > 65; k -= 66 {
			}
		}
		return torn(m.fresh[at], m.firm[at], k)
	})
}

// list returns the blocks that have fresh bytes.
func (m *model) list() []int {
	var l []int
	for at, is := range m.is {
		if is {
			l = append(l, at)
		}
	}
	return l
}

// as ends the test unless d is as m says.
func (m *model) as(t *testing.T, what string, d *device.Device) {
	t.Helper()
	same(t, what+": Blocks", d.Blocks(), len(m.firm))
	alike(t, what+": Fresh", d.Fresh(), m.list())
	for at := range m.firm {
		reads(t, d, at, m.read(at), m.firm[at])
	}
}

// someBytes returns up to most bytes; many are 0.
func someBytes(g *rand.Rand, most int) string {
	b := make([]byte, g.Intn(most+1))
	for i := range b {
		if g.Intn(3) > 0 {
			b[i] = byte(g.Intn(256))
		}
	}
	return string(b)
}

// someChoices returns up to 9 choices.
func someChoices(g *rand.Rand) []int {
	l := make([]int, g.Intn(10))
	for i := range l {
		l[i] = g.Intn(300) - 150
	}
	return l
}

// act does the same to both, and returns what it was.
func act(t *testing.T, g *rand.Rand, d *device.Device, m *model) string {
	t.Helper()
	n := len(m.firm)
	switch k := g.Intn(20); k {
	case 0:
		same(t, "Flush", d.Flush(), m.flush())
		return "Flush"
	case 1:
		choices := someChoices(g)
		d.Crash(choices)
		m.crash(choices)
		return fmt.Sprint("Crash", choices)
	case 2:
		at := []int{-1, n, -n, n + g.Intn(n)}[g.Intn(4)]
		same(t, "Write to no block", d.Write(at, someBytes(g, 70)), api.ErrArg)
		return "Write to no block"
	default:
		at := g.Intn(n)
		if k < 12 {
			at = n - 1 - g.Intn(6) // blocks that are written again
		}
		s := someBytes(g, 66)
		if len(s) > 64 {
			same(t, "a long Write", d.Write(at, s), api.ErrLong)
			return "a long Write"
		}
		write(t, d, at, s)
		m.fresh[at], m.is[at] = full(s), true
		return fmt.Sprintf("Write(%d, %q)", at, s)
	}
}

// runs calls f with devices in many states, and with models of them.
func runs(t *testing.T, f func(g *rand.Rand, d *device.Device, m *model)) {
	t.Helper()
	g := rand.New(rand.NewSource(11))
	for range 60 {
		n := 256 + g.Intn(2)*g.Intn(200)
		d, m := device.New(n), newModel(n)
		for range 12 {
			for range g.Intn(12) {
				act(t, g, d, m)
			}
			f(g, d, m)
		}
	}
}

// P11.2, P11.3 and P11.5: a device is as the model says after each act.
func TestModel(t *testing.T) {
	g := rand.New(rand.NewSource(110))
	for range 12 {
		d, m := device.New(256), newModel(256)
		for range 120 {
			m.as(t, act(t, g, d, m), d)
		}
	}
}

// all returns what f returns for each block.
func all(t *testing.T, d *device.Device, f func(at int) (string, api.Errno)) []string {
	t.Helper()
	l := make([]string, d.Blocks())
	for at := range l {
		s, e := f(at)
		same(t, "error", e, api.OK)
		l[at] = s
	}
	return l
}

// mixed reports whether s is first bytes of one block, followed by the others of another one.
func mixed(s, one, other string) bool {
	for k := range 65 {
		if s == one[:k]+other[k:] {
			return true
		}
	}
	return false
}

// P11.4: after a crash, each block has first bytes of what was read, followed by its firm ones; others are unchanged.
func TestCrashTears(t *testing.T) {
	runs(t, func(g *rand.Rand, d *device.Device, m *model) {
		read, firm, fresh := all(t, d, d.Read), all(t, d, d.Firm), d.Fresh()
		choices := someChoices(g)
		d.Crash(choices)
		m.crash(choices)
		for at, s := range all(t, d, d.Read) {
			same(t, fmt.Sprint("block ", at, " has bytes of both"), mixed(s, read[at], firm[at]), true)
			if !slices.Contains(fresh, at) {
				same(t, fmt.Sprint("block ", at), s, read[at])
			}
		}
		alike(t, "Firm", all(t, d, d.Firm), all(t, d, d.Read))
		alike(t, "Fresh", d.Fresh(), nil)
	})
}

// P11.4: a crash with all choices 0, or none, leaves what was firm; one with 64 or 65 is like a Flush.
func TestCrashAtEnds(t *testing.T) {
	runs(t, func(g *rand.Rand, d *device.Device, m *model) {
		read, firm := all(t, d, d.Read), all(t, d, d.Firm)
		for _, none := range [][]int{nil, {}, {0}, {66, -66, 0}} {
			x := d.Copy()
			x.Crash(none)
			alike(t, "Read", all(t, x, x.Read), firm)
		}
		for _, whole := range [][]int{{64}, {65}, {-1, 64, -2, 65, 130}} {
			x := d.Copy()
			x.Crash(whole)
			alike(t, "Read", all(t, x, x.Read), read)
		}
		m.as(t, "the Copies crashed", d)
	})
}

// P11.4: after a Flush, a crash does nothing, nor does one after a crash.
func TestCrashOfFirm(t *testing.T) {
	runs(t, func(g *rand.Rand, d *device.Device, m *model) {
		if g.Intn(2) == 0 {
			same(t, "Flush", d.Flush(), m.flush())
		} else {
			choices := someChoices(g)
			d.Crash(choices)
			m.crash(choices)
		}
		for range 3 {
			d.Crash(someChoices(g))
			m.as(t, "nothing is fresh", d)
		}
	})
}

// P11.5: what is written is read until it is written again; a Flush, and writes to other blocks, don't change it.
func TestWritten(t *testing.T) {
	runs(t, func(g *rand.Rand, d *device.Device, m *model) {
		before := all(t, d, d.Read)
		at, s := g.Intn(d.Blocks()), someBytes(g, 64)
		write(t, d, at, s)
		before[at] = full(s)
		alike(t, "Read after Write", all(t, d, d.Read), before)
		for range 5 {
			if other := g.Intn(d.Blocks()); other != at {
				before[other] = full("x")
				write(t, d, other, "x")
			}
			d.Flush()
			d.Write(at, before[0]+"x")
			d.Write(-1, "x")
		}
		alike(t, "Read after other acts", all(t, d, d.Read), before)
		for i := range before {
			m.firm[i], m.is[i] = before[i], false
		}
		m.as(t, "after other acts", d)
	})
}

// P11.3: each choice of each of two blocks, in front of some firm bytes.
func TestPairsOfChoices(t *testing.T) {
	for _, firm := range []string{"", "firm", strings.Repeat("x", 64)} {
		d := device.New(256)
		write(t, d, 10, firm)
		write(t, d, 20, firm)
		d.Flush()
		write(t, d, 20, "second")
		write(t, d, 10, full("first")[:40])
		for a := range 66 {
			for b := range 66 {
				x := d.Copy()
				x.Crash([]int{a, b})
				one, two := torn("first", firm, a), torn("second", firm, b)
				reads(t, x, 10, one, one)
				reads(t, x, 20, two, two)
			}
		}
	}
}
