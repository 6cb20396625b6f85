package device_test

import (
	"fmt"
	"math"
	"slices"
	"strings"
	"testing"

	"revert/api"
	"revert/device"
)

// same ends the test unless got and want are equal.
func same[T comparable](t *testing.T, what string, got, want T) {
	t.Helper()
	if got != want {
		t.Fatalf("%s: got %v, want %v", what, got, want)
	}
}

// alike ends the test unless got and want have the same items, in the same order.
func alike[T comparable](t *testing.T, what string, got, want []T) {
	t.Helper()
	if !slices.Equal(got, want) {
		t.Fatalf("%s: got %v, want %v", what, got, want)
	}
}

// full returns s, followed by bytes 0 up to those of a block.
func full(s string) string { return s + strings.Repeat("\x00", api.Block-len(s)) }

// new256 returns a device of 256 blocks.
func new256(t *testing.T) *device.Device {
	t.Helper()
	d := device.New(256)
	if d == nil {
		t.Fatal("New(256): nil")
	}
	return d
}

// write writes s to a block that there is.
func write(t *testing.T, d *device.Device, at int, s string) {
	t.Helper()
	same(t, fmt.Sprint("Write to ", at), d.Write(at, s), api.OK)
}

// reads ends the test unless Read and Firm of a block return these bytes, followed by bytes 0.
func reads(t *testing.T, d *device.Device, at int, read, firm string) {
	t.Helper()
	s, e := d.Read(at)
	same(t, fmt.Sprint("error of Read of ", at), e, api.OK)
	same(t, fmt.Sprint("Read of ", at), s, full(read))
	s, e = d.Firm(at)
	same(t, fmt.Sprint("error of Firm of ", at), e, api.OK)
	same(t, fmt.Sprint("Firm of ", at), s, full(firm))
}

// The chapter's examples.
func TestExamples(t *testing.T) {
	d := new256(t)
	write(t, d, 5, "ab")
	reads(t, d, 5, "ab", "")
	alike(t, "Fresh", d.Fresh(), []int{5})
	for _, c := range []struct {
		choices []int
		left    string
	}{{[]int{1}, "a"}, {nil, ""}, {[]int{66}, ""}, {[]int{-1}, "ab"}, {[]int{64}, "ab"}} {
		x := d.Copy()
		x.Crash(c.choices)
		reads(t, x, 5, c.left, c.left)
	}
	same(t, "Flush", d.Flush(), 1)
	same(t, "Flush, again", d.Flush(), 0)
	same(t, "Write(256, a)", d.Write(256, "a"), api.ErrArg)
	same(t, "Write(5, 65 bytes)", d.Write(5, strings.Repeat("x", 65)), api.ErrLong)
	same(t, "New(255)", device.New(255), nil)
	same(t, "New(2049)", device.New(2049), nil)
}

// P11.1: how many blocks there may be.
func TestNew(t *testing.T) {
	for n := -3; n < 2100; n++ {
		d := device.New(n)
		same(t, fmt.Sprint("there is a New of ", n), d != nil, n >= 256 && n <= 2048)
		if d != nil {
			same(t, "Blocks", d.Blocks(), n)
		}
	}
	for _, n := range []int{math.MinInt, math.MinInt32, -256, -2048, math.MaxInt32, 1<<32 + 256, math.MaxInt} {
		same(t, fmt.Sprint("New of ", n), device.New(n), nil)
	}
}

// P11.1: all blocks of a new device contain bytes 0, and none is fresh.
func TestNewBytes(t *testing.T) {
	for _, n := range []int{256, 257, 1000, 2048} {
		d := device.New(n)
		alike(t, "Fresh", d.Fresh(), nil)
		for at := range n {
			reads(t, d, at, "", "")
		}
		same(t, "Flush", d.Flush(), 0)
	}
}

// P11.1: each device has blocks of its own.
func TestNewTwice(t *testing.T) {
	a, b := new256(t), new256(t)
	write(t, a, 3, "ab")
	reads(t, b, 3, "", "")
	a.Flush()
	reads(t, b, 3, "", "")
	alike(t, "Fresh", b.Fresh(), nil)
}

// answersNil ends the test unless d answers as one that there isn't.
func answersNil(t *testing.T, what string, d *device.Device) {
	t.Helper()
	for _, at := range []int{math.MinInt, -1, 0, 5, 256, math.MaxInt} {
		for _, n := range []int{0, 64, 65} {
			same(t, what+": Write", d.Write(at, strings.Repeat("x", n)), api.ErrNil)
		}
		s, e := d.Read(at)
		same(t, what+": Read", s, "")
		same(t, what+": error of Read", e, api.ErrNil)
		s, e = d.Firm(at)
		same(t, what+": Firm", s, "")
		same(t, what+": error of Firm", e, api.ErrNil)
	}
	d.Crash(nil)
	d.Crash([]int{3})
	same(t, what+": Flush", d.Flush(), 0)
	same(t, what+": Blocks", d.Blocks(), 0)
	alike(t, what+": Fresh", d.Fresh(), nil)
	same(t, what+": Copy", d.Copy(), nil)
}

// P11.1: nil, and devices that neither New nor Copy returned.
func TestNotMade(t *testing.T) {
	answersNil(t, "nil", nil)
	answersNil(t, "a zero value", &device.Device{})
	answersNil(t, "a new one", new(device.Device))
	d := new256(t)
	write(t, d, 5, "ab")
	d.Flush()
	write(t, d, 5, "cd")
	other := *d
	answersNil(t, "a copy of the struct", &other)
	other = *d.Copy()
	answersNil(t, "a copy of a Copy's struct", &other)
	reads(t, d, 5, "cd", "ab") // nothing was done to what the structs share
	alike(t, "Fresh", d.Fresh(), []int{5})
}

// P11.2: which blocks there are; ErrArg counts ahead of ErrLong.
func TestNoSuchBlock(t *testing.T) {
	for _, n := range []int{256, 300, 2048} {
		d := device.New(n)
		for _, at := range []int{math.MinInt, -1 << 32, -n, -2, -1, n, n + 1, 2 * n, 1 << 32, math.MaxInt} {
			what := fmt.Sprint(at, " of ", n)
			for _, size := range []int{0, 1, 64, 65, 1000} {
				same(t, "Write to "+what, d.Write(at, strings.Repeat("x", size)), api.ErrArg)
			}
			s, e := d.Read(at)
			same(t, "Read of "+what, s, "")
			same(t, "error of Read of "+what, e, api.ErrArg)
			s, e = d.Firm(at)
			same(t, "Firm of "+what, s, "")
			same(t, "error of Firm of "+what, e, api.ErrArg)
		}
		alike(t, "Fresh", d.Fresh(), nil)
		for at := range n {
			write(t, d, at, "x")
			reads(t, d, at, "x", "")
		}
	}
}

// P11.2: all sizes of a write; one that is too long changes nothing.
func TestWriteSizes(t *testing.T) {
	d := new256(t)
	for size := range 200 {
		s := strings.Repeat("\xff", size)
		if size <= 64 {
			write(t, d, size, s)
			reads(t, d, size, s, "")
			continue
		}
		same(t, "Write", d.Write(size, s), api.ErrLong)
		reads(t, d, size, "", "")
		same(t, "Write", d.Write(64, s), api.ErrLong)
		reads(t, d, 64, strings.Repeat("\xff", 64), "")
	}
	same(t, "Write", d.Write(0, strings.Repeat("\x00", 65)), api.ErrLong)
	same(t, "Write", d.Write(0, strings.Repeat("x", 1<<20)), api.ErrLong)
	same(t, "Flush", d.Flush(), 65)
}

// P11.2: each byte at each place.
func TestWriteBytes(t *testing.T) {
	d := new256(t)
	for b := range 256 {
		for at := range 64 {
			s := strings.Repeat("a", at) + string([]byte{byte(b)}) + strings.Repeat("z", 63-at)
			write(t, d, b, s)
			reads(t, d, b, s, "")
		}
	}
}

// P11.2: a write replaces all bytes of its block, those of an earlier one, and firm ones, too.
func TestWriteAgain(t *testing.T) {
	d := new256(t)
	write(t, d, 9, strings.Repeat("x", 64))
	write(t, d, 9, "ab")
	reads(t, d, 9, "ab", "")
	alike(t, "Fresh", d.Fresh(), []int{9})
	same(t, "Flush", d.Flush(), 1)
	reads(t, d, 9, "ab", "ab")
	write(t, d, 9, "c")
	reads(t, d, 9, "c", "ab")
	write(t, d, 9, "")
	reads(t, d, 9, "", "ab")
	same(t, "Flush", d.Flush(), 1)
	reads(t, d, 9, "", "")
}

// P11.2: what is written counts as fresh even if the block has these bytes already, or if they are bytes 0.
func TestWriteTheSame(t *testing.T) {
	d := new256(t)
	write(t, d, 9, "")
	write(t, d, 8, "ab")
	alike(t, "Fresh", d.Fresh(), []int{8, 9})
	same(t, "Flush", d.Flush(), 2)
	write(t, d, 8, full("ab"))
	write(t, d, 9, full(""))
	alike(t, "Fresh", d.Fresh(), []int{8, 9})
	reads(t, d, 8, "ab", "ab")
	reads(t, d, 9, "", "")
	same(t, "Flush", d.Flush(), 2)
}

// P11.3: Fresh is in order, whatever the order of the writes, and in new memory.
func TestFresh(t *testing.T) {
	d := device.New(2048)
	for _, at := range []int{2047, 0, 1000, 5, 0, 255, 1000, 256, 2046, 1} {
		write(t, d, at, "x")
	}
	want := []int{0, 1, 5, 255, 256, 1000, 2046, 2047}
	got := d.Fresh()
	alike(t, "Fresh", got, want)
	clear(got[:cap(got)])
	alike(t, "Fresh", d.Fresh(), want)
	got = d.Fresh()
	d.Flush()
	alike(t, "an earlier Fresh", got, want)
	alike(t, "Fresh after Flush", d.Fresh(), nil)
	write(t, d, 7, "x")
	alike(t, "Fresh", d.Fresh(), []int{7})
	d.Crash(nil)
	alike(t, "Fresh after Crash", d.Fresh(), nil)
}

// P11.3: Flush makes all fresh bytes firm, and tells how many blocks had some.
func TestFlush(t *testing.T) {
	d := device.New(2048)
	for at := range 2048 {
		write(t, d, at, fmt.Sprint("a", at))
		write(t, d, at, fmt.Sprint("b", at))
	}
	same(t, "Flush", d.Flush(), 2048)
	same(t, "Flush", d.Flush(), 0)
	for at := range 2048 {
		reads(t, d, at, fmt.Sprint("b", at), fmt.Sprint("b", at))
	}
	write(t, d, 2, "c")
	write(t, d, 1, "d")
	same(t, "Flush", d.Flush(), 2)
	reads(t, d, 2, "c", "c")
	reads(t, d, 1, "d", "d")
	reads(t, d, 0, "b0", "b0")
}

// torn returns what a crash with a choice from 0 to 65 leaves of a block.
func torn(fresh, firm string, choice int) string {
	if choice > 64 {
		choice = 64
	}
	return full(fresh)[:choice] + full(firm)[choice:]
}

// P11.3: each choice, also below 0 and above 65.
func TestChoices(t *testing.T) {
	fresh, firm := "", ""
	for i := range 64 {
		fresh, firm = fresh+string(rune('A'+i%60)), firm+string(rune('B'+i%60))
	}
	for k := range 66 {
		want := torn(fresh, firm, k)
		for _, by := range []int{0, 1, 2, 1000, 1 << 40, -1, -2, -1000, -1 << 40} {
			d := new256(t)
			write(t, d, 7, firm)
			d.Flush()
			write(t, d, 7, fresh)
			d.Crash([]int{k + 66*by})
			reads(t, d, 7, want, want)
			alike(t, "Fresh", d.Fresh(), nil)
			same(t, "Flush", d.Flush(), 0)
		}
	}
}

// P11.3: the greatest and the least choice, and the neighbours of 0 and 66.
func TestChoicesAtEnds(t *testing.T) {
	for choice, k := range map[int]int{math.MaxInt: 7, math.MinInt: 58, math.MaxInt32: 1, math.MinInt32: 64, -1: 65, -2: 64, -3: 63, -65: 1, -66: 0, -67: 65, 65: 65, 66: 0, 67: 1} {
		d := new256(t)
		write(t, d, 0, strings.Repeat("x", 64))
		d.Crash([]int{choice})
		want := strings.Repeat("x", min(k, 64))
		reads(t, d, 0, want, want)
	}
}

// P11.3: the choices are for the fresh blocks in ascending order, and start again at their end.
func TestChoicesInTurn(t *testing.T) {
	for _, choices := range [][]int{nil, {}, {5}, {1, 64}, {3, 0, 2}, {1, 2, 3, 4, 5, 6, 7}, {-1, -66, 70, 4, 65, 9, 8, 7, 6, 5}} {
		d := new256(t)
		order := []int{200, 3, 255, 0, 77, 4, 3, 254}
		for _, at := range order {
			write(t, d, at, strings.Repeat("x", 64))
		}
		before := slices.Clone(choices)
		d.Crash(choices)
		alike(t, "choices", choices, before)
		for i, at := range []int{0, 3, 4, 77, 200, 254, 255} {
			k := 0
			if len(choices) > 0 {
				k = (choices[i%len(choices)] + 66) % 66
			}
			want := torn(strings.Repeat("x", 64), "", k)
			reads(t, d, at, want, want)
		}
		reads(t, d, 1, "", "")
	}
}

// P11.3: only fresh blocks have choices, not those that were flushed.
func TestChoicesOfFresh(t *testing.T) {
	d := new256(t)
	for at := range 10 {
		write(t, d, at, "abc")
	}
	d.Flush()
	write(t, d, 4, "xyz")
	write(t, d, 8, "xyz")
	d.Crash([]int{1, 2, 0})
	for at := range 10 {
		want := "abc"
		switch at {
		case 4:
			want = "xbc"
		case 8:
			want = "xyc"
		}
		reads(t, d, at, want, want)
	}
}

// P11.3: a crash may leave bytes 0 alone where there were others.
func TestTornToZeros(t *testing.T) {
	d := new256(t)
	write(t, d, 6, "ab")
	d.Flush()
	write(t, d, 6, "")
	d.Crash([]int{1})
	reads(t, d, 6, "\x00b", "\x00b")
	write(t, d, 6, "")
	d.Crash([]int{2})
	reads(t, d, 6, "", "")
	write(t, d, 6, "cd")
	d.Crash([]int{1})
	reads(t, d, 6, "c", "c")
}

// P11.3: a Copy is equal, fresh bytes included, and neither of both changes with the other one.
func TestCopy(t *testing.T) {
	d := device.New(300)
	write(t, d, 1, "firm")
	write(t, d, 2, "old")
	d.Flush()
	write(t, d, 2, "new")
	x := d.Copy()
	y := x.Copy()
	same(t, "it is another one", x != d && y != x && y != d, true)
	d.Flush()
	write(t, d, 1, "d")
	x.Crash(nil)
	write(t, x, 3, "x")
	same(t, "Blocks", y.Blocks(), 300)
	reads(t, y, 1, "firm", "firm")
	reads(t, y, 2, "new", "old")
	reads(t, y, 3, "", "")
	alike(t, "Fresh of the Copy's Copy", y.Fresh(), []int{2})
	reads(t, d, 1, "d", "firm")
	reads(t, d, 2, "new", "new")
	reads(t, d, 3, "", "")
	alike(t, "Fresh", d.Fresh(), []int{1})
	reads(t, x, 1, "firm", "firm")
	reads(t, x, 2, "old", "old")
	reads(t, x, 3, "x", "")
	alike(t, "Fresh of the Copy", x.Fresh(), []int{3})
	same(t, "Write to the Copy", x.Write(300, ""), api.ErrArg)
}

// P11.3: a Copy of a new device can be written to, as can one of a device that was flushed.
func TestCopyOfNew(t *testing.T) {
	x := new256(t).Copy()
	write(t, x, 0, "a")
	reads(t, x, 0, "a", "")
	same(t, "Flush", x.Flush(), 1)
	y := x.Copy()
	reads(t, y, 0, "a", "a")
	write(t, y, 255, "b")
	y.Crash([]int{65})
	reads(t, y, 255, "b", "b")
}
