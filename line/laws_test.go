package line_test

import (
	"fmt"
	"math/rand"
	"slices"
	"strings"
	"testing"

	"revert/api"
	"revert/device"
	"revert/line"
)

// call is something that is requested of a line.
type call struct {
	kind int
	at   int
	s    string
}

// The kinds of calls.
const (
	writes = iota
	flushes
	reads
)

// String tells a call, for failures.
func (c call) String() string {
	return fmt.Sprintf("%s(%d, %q)", []string{"Write", "Flush", "Read"}[c.kind], c.at, c.s)
}

// result is what a call returned.
type result struct {
	s string
	e api.Errno
}

// over performs a call over a line.
func (c call) over(l *line.Line) result {
	switch c.kind {
	case writes:
		return result{"", l.Write(c.at, c.s)}
	case flushes:
		return result{"", l.Flush()}
	}
	s, e := l.Read(c.at)
	return result{s, e}
}

// on performs a call on a device.
func (c call) on(d *device.Device) result {
	switch c.kind {
	case writes:
		return result{"", d.Write(c.at, c.s)}
	case flushes:
		d.Flush()
		return result{"", api.OK}
	}
	s, e := d.Read(c.at)
	return result{s, e}
}

// someCalls returns n calls; some are refused by the device.
func someCalls(g *rand.Rand, n int) []call {
	l := make([]call, n)
	for i := range l {
		c := call{kind: writes, at: g.Intn(6), s: strings.Repeat(string(rune('a'+g.Intn(26))), g.Intn(65))}
		switch g.Intn(12) {
		case 0:
			c = call{kind: flushes}
		case 1, 2:
			c = call{kind: reads, at: g.Intn(7) - 1}
		case 3:
			c.at = []int{-1, 256, 1000}[g.Intn(3)]
		case 4:
			c.s = strings.Repeat("x", 65)
		}
		l[i] = c
	}
	return l
}

// someChoices returns up to 4 choices.
func someChoices(g *rand.Rand) []int {
	l := make([]int, g.Intn(5))
	for i := range l {
		l[i] = g.Intn(300) - 150
	}
	return l
}

// someDevice returns a device on which something was done.
func someDevice(g *rand.Rand) *device.Device {
	d := device.New(256)
	for _, c := range someCalls(g, g.Intn(10)) {
		c.on(d)
	}
	return d
}

// equal ends the test unless both devices have the same bytes, fresh and firm.
func equal(t *testing.T, what string, got, want *device.Device) {
	t.Helper()
	same(t, what+": Blocks", got.Blocks(), want.Blocks())
	alike(t, what+": Fresh", got.Fresh(), want.Fresh())
	for at := range got.Blocks() {
		a, _ := got.Read(at)
		b, _ := want.Read(at)
		same(t, fmt.Sprint(what, ": Read of ", at), a, b)
		a, _ = got.Firm(at)
		b, _ = want.Firm(at)
		same(t, fmt.Sprint(what, ": Firm of ", at), a, b)
	}
}

// actsOf returns the calls that are acts.
func actsOf(calls []call) []call {
	return slices.DeleteFunc(slices.Clone(calls), func(c call) bool { return c.kind == reads })
}

// cutBy returns what a device becomes by these acts, of which the one with the number n cuts the line.
func cutBy(d *device.Device, acts []call, n int, choices []int) *device.Device {
	d = d.Copy()
	for i, c := range acts {
		switch {
		case i < n:
			c.on(d)
		case i == n:
			if len(choices) > 0 && choices[0]&1 == 1 {
				c.on(d)
			}
			d.Crash(choices)
		}
	}
	return d
}

// P12.4: the device of a line that was cut, at each of its acts, whatever is requested later.
func TestDeviceAfterCut(t *testing.T) {
	g := rand.New(rand.NewSource(124))
	for range 30 {
		d, calls, choices := someDevice(g), someCalls(g, 25), someChoices(g)
		acts := actsOf(calls)
		for n := -1; n <= len(acts); n++ {
			x := d.Copy()
			l := line.New(x, n, choices)
			for _, c := range calls {
				c.over(l)
			}
			what := fmt.Sprint(calls, ", cut by ", n, " with ", choices)
			reached := n >= 0 && n < len(acts)
			same(t, what+": Down", l.Down(), reached)
			if !reached {
				same(t, what+": Acts", l.Acts(), len(acts))
				equal(t, what, x, cutBy(d, acts, len(acts), choices))
				continue
			}
			same(t, what+": Acts", l.Acts(), n+1)
			equal(t, what, x, cutBy(d, acts, n, choices))
			l.Blow()
			equal(t, what+", then Blow", x, cutBy(d, acts, n, choices))
		}
	}
}

// P12.2, P12.3 and P12.5: up to the act that cuts it, a line behaves like the device itself, and like a line that is never cut.
func TestUpToCut(t *testing.T) {
	g := rand.New(rand.NewSource(125))
	for range 150 {
		d, calls, choices, n := someDevice(g), someCalls(g, 40), someChoices(g), g.Intn(45)
		x := d.Copy()
		l, whole := line.New(x, n, choices), line.New(d.Copy(), -1, nil)
		acts := 0
		for _, c := range calls {
			if c.kind != reads && acts == n {
				break
			}
			want := c.on(d)
			same(t, "the line: "+c.String(), c.over(l), want)
			same(t, "one that is never cut: "+c.String(), c.over(whole), want)
			if c.kind != reads {
				acts++
			}
			same(t, "Down", l.Down(), false)
			same(t, "Acts", l.Acts(), acts)
			equal(t, c.String(), x, d)
		}
		equal(t, "one that is never cut", whole.Device(), d)
	}
}

// P12.3: a line that is blown in between is like a device that crashes, and is left alone from then on.
func TestBlownInBetween(t *testing.T) {
	g := rand.New(rand.NewSource(123))
	for range 150 {
		d, before, choices := someDevice(g), someCalls(g, g.Intn(20)), someChoices(g)
		x := d.Copy()
		l := line.New(x, len(actsOf(before))+g.Intn(3), choices)
		for _, c := range before {
			same(t, c.String(), c.over(l), c.on(d))
		}
		l.Blow()
		d.Crash(choices)
		equal(t, "blown", x, d)
		for _, c := range someCalls(g, 10) {
			same(t, c.String(), c.over(l), result{"", api.ErrDown})
		}
		l.Blow()
		same(t, "Acts", l.Acts(), len(actsOf(before)))
		equal(t, "blown, and used", x, d)
	}
}

// P12.5: two lines with the same choices, to devices that are equal, behave alike: none of them changes the list.
func TestTwice(t *testing.T) {
	g := rand.New(rand.NewSource(12))
	for range 100 {
		d, calls, choices, n := someDevice(g), someCalls(g, 30), someChoices(g), g.Intn(30)
		kept := slices.Clone(choices)
		a, b := line.New(d.Copy(), n, choices), line.New(d.Copy(), n, choices)
		for _, c := range calls {
			same(t, c.String(), c.over(a), c.over(b))
		}
		same(t, "Acts", a.Acts(), b.Acts())
		alike(t, "choices", choices, kept)
		equal(t, "the devices", a.Device(), b.Device())
	}
}
