package line_test

import (
	"fmt"
	"math"
	"slices"
	"strings"
	"testing"

	"revert/api"
	"revert/device"
	"revert/line"
)

// same ends the test unless got and want are equal.
func same[T comparable](t *testing.T, what string, got, want T) {
	t.Helper()
	if got != want {
		t.Fatalf("%s: got %v, want %v", what, got, want)
	}
}

// alike ends the test unless got and want have the same items, in the same order.
func alike[T comparable](t *testing.T, what string, got, want []T) {
	t.Helper()
	if !slices.Equal(got, want) {
		t.Fatalf("%s: got %v, want %v", what, got, want)
	}
}

// full returns s, followed by bytes 0 up to those of a block.
func full(s string) string { return s + strings.Repeat("\x00", api.Block-len(s)) }

// new256 returns a line to a new device of 256 blocks, and the device.
func new256(t *testing.T, cut int, choices ...int) (*line.Line, *device.Device) {
	t.Helper()
	d := device.New(256)
	l := line.New(d, cut, choices)
	if l == nil {
		t.Fatal("New: nil")
	}
	return l, d
}

// write ends the test unless a Write over the line returns want.
func write(t *testing.T, l *line.Line, at int, s string, want api.Errno) {
	t.Helper()
	same(t, fmt.Sprint("Write to ", at), l.Write(at, s), want)
}

// flush ends the test unless a Flush over the line returns want.
func flush(t *testing.T, l *line.Line, want api.Errno) {
	t.Helper()
	same(t, "Flush", l.Flush(), want)
}

// holds ends the test unless Read and Firm of a block of the device return these bytes, followed by bytes 0.
func holds(t *testing.T, d *device.Device, at int, read, firm string) {
	t.Helper()
	s, e := d.Read(at)
	same(t, fmt.Sprint("error of Read of ", at), e, api.OK)
	same(t, fmt.Sprint("Read of ", at), s, full(read))
	s, e = d.Firm(at)
	same(t, fmt.Sprint("error of Firm of ", at), e, api.OK)
	same(t, fmt.Sprint("Firm of ", at), s, full(firm))
}

// intact ends the test unless the line isn't cut, and has so many acts.
func intact(t *testing.T, l *line.Line, acts int) {
	t.Helper()
	same(t, "Down", l.Down(), false)
	same(t, "Acts", l.Acts(), acts)
}

// isCut ends the test unless the line is cut, with so many acts, and does nothing any more.
func isCut(t *testing.T, l *line.Line, acts int) {
	t.Helper()
	d := l.Device()
	if d == nil {
		t.Fatal("Device: nil")
	}
	d.Write(77, "firm")
	d.Flush()
	d.Write(77, "fresh")
	for range 3 {
		same(t, "Down", l.Down(), true)
		same(t, "Acts", l.Acts(), acts)
		for _, at := range []int{math.MinInt, -1, 0, 77, 256, math.MaxInt} {
			write(t, l, at, "x", api.ErrDown)
			write(t, l, at, strings.Repeat("x", 65), api.ErrDown)
			s, e := l.Read(at)
			same(t, "Read", s, "")
			same(t, "error of Read", e, api.ErrDown)
		}
		flush(t, l, api.ErrDown)
		l.Blow()
		same(t, "Device", l.Device(), d)
	}
	holds(t, d, 77, "fresh", "firm")
	alike(t, "Fresh", d.Fresh(), []int{77})
}

// The chapter's examples of a line that is cut by an act.
func TestExamplesOfCuts(t *testing.T) {
	for _, c := range []struct {
		choices   []int
		five, six string
	}{{[]int{1}, "a", "c"}, {[]int{2}, "ab", ""}} {
		l, d := new256(t, 1, c.choices...)
		write(t, l, 5, "ab", api.OK)
		write(t, l, 6, "cd", api.ErrDown)
		write(t, l, 7, "ef", api.ErrDown)
		s, e := l.Read(5)
		same(t, "Read", s, "")
		same(t, "error of Read", e, api.ErrDown)
		same(t, "Acts", l.Acts(), 2)
		same(t, "Down", l.Down(), true)
		holds(t, d, 5, c.five, c.five)
		holds(t, d, 6, c.six, c.six)
		holds(t, d, 7, "", "")
	}
}

// The chapter's other examples.
func TestExamples(t *testing.T) {
	l, d := new256(t, -1)
	write(t, l, 5, "ab", api.OK)
	flush(t, l, api.OK)
	write(t, l, 5, "xy", api.OK)
	l.Blow()
	holds(t, d, 5, "ab", "ab")
	same(t, "Acts", l.Acts(), 3)
	same(t, "New(nil, 0, none)", line.New(nil, 0, nil), nil)
}

// P12.1: a device that is nil, or has no blocks.
func TestNoDevice(t *testing.T) {
	d := device.New(256)
	other := *d // a device that neither New nor Copy returned has no blocks
	for _, none := range []*device.Device{nil, {}, new(device.Device), device.New(255), &other} {
		for _, cut := range []int{math.MinInt, -1, 0, 1, math.MaxInt} {
			same(t, "New", line.New(none, cut, nil), nil)
			same(t, "New", line.New(none, cut, []int{1}), nil)
		}
	}
}

// P12.1 and P12.3: a new line is intact, leads to the device that New was given, and did nothing to it.
func TestNew(t *testing.T) {
	for _, n := range []int{256, 1000, 2048} {
		for _, cut := range []int{math.MinInt, -1, 0, 1, math.MaxInt} {
			for _, choices := range [][]int{nil, {}, {0}, {1}, {65, 3}} {
				d := device.New(n)
				d.Write(3, "firm")
				d.Flush()
				d.Write(3, "fresh")
				before := slices.Clone(choices)
				l := line.New(d, cut, choices)
				intact(t, l, 0)
				same(t, "Device", l.Device(), d)
				alike(t, "choices", choices, before)
				holds(t, d, 3, "fresh", "firm")
			}
		}
	}
}

// answersNil ends the test unless l answers as a line that there isn't.
func answersNil(t *testing.T, what string, l *line.Line) {
	t.Helper()
	for range 2 {
		for _, at := range []int{math.MinInt, -1, 0, 5, 256, math.MaxInt} {
			same(t, what+": Write", l.Write(at, "x"), api.ErrNil)
			same(t, what+": Write", l.Write(at, strings.Repeat("x", 65)), api.ErrNil)
			s, e := l.Read(at)
			same(t, what+": Read", s, "")
			same(t, what+": error of Read", e, api.ErrNil)
		}
		same(t, what+": Flush", l.Flush(), api.ErrNil)
		same(t, what+": Down", l.Down(), true)
		same(t, what+": Acts", l.Acts(), 0)
		same(t, what+": Device", l.Device(), nil)
		l.Blow()
	}
}

// P12.1: nil, and lines that New did not return.
func TestNotMade(t *testing.T) {
	answersNil(t, "nil", nil)
	answersNil(t, "a zero value", &line.Line{})
	answersNil(t, "a new one", new(line.Line))
	for _, cut := range []int{-1, 1} {
		l, d := new256(t, cut, 1)
		write(t, l, 5, "ab", api.OK)
		other := *l
		answersNil(t, "a copy of the struct", &other)
		intact(t, l, 1) // nothing was done to what the structs share
		holds(t, d, 5, "ab", "")
		l.Blow()
		other = *l
		answersNil(t, "a copy of the struct of a line that is cut", &other)
	}
}

// P12.1: choices are copied: neither the act that cuts nor the crash sees what becomes of the list later.
func TestChoicesAreCopied(t *testing.T) {
	for _, c := range []struct {
		given, later []int
		four, five   string // what is left of these blocks by the choices that were given
	}{
		{[]int{3, 1}, []int{2, 64}, "efg", "a"},
		{[]int{2, 64}, []int{3, 1}, "", "ab"},
	} {
		choices, d := slices.Clone(c.given), device.New(256)
		l := line.New(d, 1, choices)
		copy(choices, c.later)
		write(t, l, 5, "abcd", api.OK)
		write(t, l, 4, "efgh", api.ErrDown)
		holds(t, d, 4, c.four, c.four)
		holds(t, d, 5, c.five, c.five)
		alike(t, "choices", choices, c.later)
	}
}

// P12.1: the choices of a line that is blown are copied, too.
func TestChoicesOfBlowAreCopied(t *testing.T) {
	choices, d := []int{3, 1}, device.New(256)
	l := line.New(d, -1, choices)
	copy(choices, []int{0, 0})
	write(t, l, 5, "abcd", api.OK)
	write(t, l, 4, "efgh", api.OK)
	l.Blow()
	holds(t, d, 4, "efg", "efg")
	holds(t, d, 5, "a", "a")
	alike(t, "choices", choices, []int{0, 0})
}

// P12.1: no act cuts a line whose number is below 0, or is not reached.
func TestNeverCut(t *testing.T) {
	for _, cut := range []int{math.MinInt, math.MinInt32, -300, -2, -1, 300, 1 << 32, math.MaxInt} {
		l, d := new256(t, cut, 1)
		for i := range 150 {
			write(t, l, i, "x", api.OK)
			flush(t, l, api.OK)
			intact(t, l, 2*i+2)
			holds(t, d, i, "x", "x")
		}
	}
}

// P12.2: while the line is intact, Write and Flush are those of the device.
func TestActs(t *testing.T) {
	l, d := new256(t, -1, 1)
	write(t, l, 255, strings.Repeat("x", 64), api.OK)
	holds(t, d, 255, strings.Repeat("x", 64), "")
	write(t, l, 0, "", api.OK)
	alike(t, "Fresh", d.Fresh(), []int{0, 255})
	flush(t, l, api.OK)
	holds(t, d, 255, strings.Repeat("x", 64), strings.Repeat("x", 64))
	flush(t, l, api.OK) // nothing is fresh
	write(t, l, 255, "a", api.OK)
	holds(t, d, 255, "a", strings.Repeat("x", 64))
	intact(t, l, 5)
}

// P12.2: a Write that the device refuses returns its error, changes nothing, and is an act.
func TestRefusedWrites(t *testing.T) {
	l, d := new256(t, -1, 1)
	acts := 0
	for _, at := range []int{math.MinInt, -1, 256, math.MaxInt} {
		for _, size := range []int{0, 64, 65} {
			write(t, l, at, strings.Repeat("x", size), api.ErrArg)
			acts++
			intact(t, l, acts)
		}
	}
	write(t, l, 255, strings.Repeat("x", 65), api.ErrLong)
	intact(t, l, acts+1)
	alike(t, "Fresh", d.Fresh(), nil)
}

// P12.2: a Write that the device would refuse may be the act that cuts.
func TestCutByRefusedWrite(t *testing.T) {
	for _, c := range []struct {
		at   int
		size int
	}{{-1, 0}, {256, 1}, {0, 65}} {
		for choice, five := range []string{"", "a", "ab"} {
			l, d := new256(t, 1, choice)
			write(t, l, 5, "ab", api.OK)
			write(t, l, c.at, strings.Repeat("x", c.size), api.ErrDown)
			holds(t, d, 5, five, five)
			isCut(t, l, 2)
		}
	}
}

// P12.2: each act may be the one that cuts; those before it are performed.
func TestEachCut(t *testing.T) {
	for cut := range 40 {
		for choice := range 2 { // 0 leaves nothing of what is fresh, and 1 first bytes
			l, d := new256(t, cut, choice)
			for i := range cut {
				write(t, l, i, "ab", api.OK)
				intact(t, l, i+1)
			}
			write(t, l, cut, "ab", api.ErrDown)
			for i := range 50 {
				want := "a"[:choice]
				if i > cut {
					want = ""
				}
				holds(t, d, i, want, want)
			}
			isCut(t, l, cut+1)
		}
	}
}

// remainder returns what a choice is as a number from 0 to 65.
func remainder(choice int) int {
	if k := choice % 66; k < 0 {
		return k + 66
	}
	return choice % 66
}

// P12.2: an odd first choice, also below 0, has the Write that cuts performed; an even one hasn't.
func TestOddChoices(t *testing.T) {
	odd := map[int]bool{math.MinInt: false, math.MinInt + 1: true, math.MaxInt: true, math.MaxInt - 1: false}
	for i := -140; i < 140; i += 2 {
		odd[i], odd[i+1] = false, true
	}
	for choice, is := range odd {
		l, d := new256(t, 1, choice)
		five, six := full("abcdef"), full("ghijkl")
		write(t, l, 5, five, api.OK)
		write(t, l, 6, six, api.ErrDown)
		k := min(remainder(choice), 64)
		holds(t, d, 5, five[:k], five[:k])
		if !is {
			k = 0
		}
		holds(t, d, 6, six[:k], six[:k])
		isCut(t, l, 2)
	}
}

// P12.2: it is the first choice that says whether the act is performed, and all of them are the crash's.
func TestFirstChoice(t *testing.T) {
	for _, c := range []struct {
		choices []int
		left    []string // of the blocks from 5 on; the act is the Write to 5
	}{
		{[]int{1, 2}, []string{"a", "ab", "a"}},
		{[]int{2, 1}, []string{"", "ab", "a"}},
		{[]int{3, 0, 2}, []string{"abc", "", "ab"}},
		{[]int{0, 3, 3}, []string{"", "", "abc"}},
		{[]int{65, 2, 2}, []string{"abcd", "ab", "ab"}},
		{[]int{64, 1, 1}, []string{"", "abcd", "a"}},
		{nil, []string{"", "", ""}},
		{[]int{}, []string{"", "", ""}},
	} {
		l, d := new256(t, 2, c.choices...)
		write(t, l, 7, "abcd", api.OK)
		write(t, l, 6, "abcd", api.OK)
		write(t, l, 5, "abcd", api.ErrDown)
		for i, want := range c.left {
			holds(t, d, 5+i, want, want)
		}
		isCut(t, l, 3)
	}
}

// P12.2: a Flush that cuts makes all firm with an odd first choice, and nothing with an even one.
func TestCutByFlush(t *testing.T) {
	for _, c := range []struct {
		choices []int
		five    string
	}{{[]int{1}, "abcd"}, {[]int{-1}, "abcd"}, {[]int{1, 2}, "abcd"}, {[]int{0}, "fi"}, {[]int{2}, "ab"}, {[]int{66}, "fi"}, {[]int{64}, "abcd"}, {nil, "fi"}} {
		l, d := new256(t, 3, c.choices...)
		write(t, l, 5, "fi", api.OK)
		flush(t, l, api.OK)
		write(t, l, 5, "abcd", api.OK)
		flush(t, l, api.ErrDown)
		holds(t, d, 5, c.five, c.five)
		isCut(t, l, 4)
	}
}

// P12.3: Read is that of the device, fresh bytes included, and no act.
func TestRead(t *testing.T) {
	l, d := new256(t, 2, 1)
	write(t, l, 5, "ab", api.OK)
	d.Write(6, "cd") // a device may be used beside its line
	for range 5 {
		for at, want := range map[int]string{0: "", 5: "ab", 6: "cd", 255: ""} {
			s, e := l.Read(at)
			same(t, "error of Read", e, api.OK)
			same(t, fmt.Sprint("Read of ", at), s, full(want))
		}
		for _, at := range []int{math.MinInt, -1, 256, math.MaxInt} {
			s, e := l.Read(at)
			same(t, "error of Read", e, api.ErrArg)
			same(t, "Read", s, "")
		}
	}
	intact(t, l, 1)
	alike(t, "Fresh", d.Fresh(), []int{5, 6})
	write(t, l, 5, "x", api.OK)
	write(t, l, 5, "x", api.ErrDown)
}

// P12.3: Blow crashes the device with the choices, without an act.
func TestBlow(t *testing.T) {
	for _, cut := range []int{-1, 2, 3} {
		for choice, five := range []string{"", "a", "ab", "abc"} {
			l, d := new256(t, cut, choice, 1)
			write(t, l, 5, "abc", api.OK)
			write(t, l, 6, "def", api.OK)
			l.Blow()
			holds(t, d, 5, five, five)
			holds(t, d, 6, "d", "d")
			isCut(t, l, 2)
		}
	}
}

// P12.3: Blow before any act, and without choices.
func TestBlowAtOnce(t *testing.T) {
	for _, c := range []struct {
		choices []int
		five    string
	}{{nil, ""}, {[]int{1}, "a"}, {[]int{2}, "ab"}} {
		l, d := new256(t, 0, c.choices...)
		d.Write(5, "abc")
		l.Blow()
		holds(t, d, 5, c.five, c.five)
		isCut(t, l, 0)
	}
}

// P12.3: a line that was cut by an act can't be blown: the device doesn't crash once more.
func TestBlowAfterCut(t *testing.T) {
	l, d := new256(t, 0, 1)
	flush(t, l, api.ErrDown)
	d.Write(5, "abc")
	l.Blow()
	holds(t, d, 5, "abc", "")
	isCut(t, l, 1)
}

// P12.3: a device may have several lines, one after another or at once; each is cut on its own.
func TestLinesOfOneDevice(t *testing.T) {
	a, d := new256(t, 1, 64)
	b := line.New(d, 5, nil)
	write(t, a, 5, "a", api.OK)
	write(t, b, 6, "b", api.OK)
	write(t, a, 7, "c", api.ErrDown)
	isCut(t, a, 2)
	intact(t, b, 1)
	s, e := b.Read(5)
	same(t, "error of Read", e, api.OK)
	same(t, "Read", s, full("a"))
	holds(t, d, 6, "b", "b")
	c := line.New(d, -1, nil)
	write(t, c, 6, "x", api.OK)
	b.Blow()
	isCut(t, b, 1)
	intact(t, c, 1)
	flush(t, c, api.OK)
	holds(t, d, 6, "b", "b")
}
