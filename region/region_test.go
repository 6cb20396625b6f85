package region_test

import (
	"fmt"
	"math"
	"slices"
	"strings"
	"testing"

	"revert/api"
	"revert/device"
	"revert/line"
	"revert/region"
)

// same ends the test unless got and want are equal.
func same[T comparable](t *testing.T, what string, got, want T) {
	t.Helper()
	if got != want {
		t.Fatalf("%s: got %v, want %v", what, got, want)
	}
}

// alike ends the test unless got and want have the same items, in the same order.
func alike[T comparable](t *testing.T, what string, got, want []T) {
	t.Helper()
	if !slices.Equal(got, want) {
		t.Fatalf("%s: got %q, want %q", what, fmt.Sprint(got), fmt.Sprint(want))
	}
}

// full returns s, followed by bytes 0 up to those of a block.
func full(s string) string { return s + strings.Repeat("\x00", api.Block-len(s)) }

// xs returns n bytes x.
func xs(n int) string { return strings.Repeat("x", n) }

// onDevice returns a line to a new device, and the device.
func onDevice(n, cut int, choices ...int) (*line.Line, *device.Device) {
	d := device.New(n)
	return line.New(d, cut, choices), d
}

// format returns a region of Format.
func format(t *testing.T, l *line.Line, at, n int) *region.Region {
	t.Helper()
	r, e := region.Format(l, at, n)
	same(t, "Format", e, api.OK)
	if r == nil {
		t.Fatal("Format: nil")
	}
	return r
}

// refused ends the test unless Format and Read return the error want, and no other result.
func refused(t *testing.T, l *line.Line, at, n int, want api.Errno) {
	t.Helper()
	what := fmt.Sprintf("of %d blocks from %d on", n, at)
	r, e := region.Format(l, at, n)
	same(t, "Format "+what, r, nil)
	same(t, "error of Format "+what, e, want)
	isTorn(t, l, at, n, want)
}

// isTorn ends the test unless Read returns the error want, and no other result.
func isTorn(t *testing.T, l *line.Line, at, n int, want api.Errno) {
	t.Helper()
	what := fmt.Sprintf("of %d blocks from %d on", n, at)
	gen, groups, e := region.Read(l, at, n)
	same(t, "error of Read "+what, e, want)
	same(t, "generation of Read "+what, gen, 0)
	same(t, "number of groups of Read "+what, len(groups), 0)
}

// holds ends the test unless Read returns these contents, twice, and changes nothing.
func holds(t *testing.T, l *line.Line, at, n int, gen uint32, groups ...string) {
	t.Helper()
	acts, fresh := l.Acts(), l.Device().Fresh()
	for range 2 {
		g, got, e := region.Read(l, at, n)
		same(t, "error of Read", e, api.OK)
		same(t, "generation", g, gen)
		alike(t, "groups", got, groups)
	}
	same(t, "acts of Read", l.Acts()-acts, 0)
	alike(t, "Fresh after Read", l.Device().Fresh(), fresh)
}

// reads ends the test unless a block of the device has these bytes, followed by bytes 0.
func reads(t *testing.T, d *device.Device, at int, want string) {
	t.Helper()
	s, e := d.Read(at)
	same(t, fmt.Sprint("error of block ", at), e, api.OK)
	if s != full(want) {
		t.Fatalf("block %d: got %q, want %q", at, s, full(want))
	}
}

// logBlock returns a log block, as the chapter defines it, but for what is given.
func logBlock(number, end, size int, bytes string, again int) string {
	s := full(string([]byte{byte(number >> 8), byte(number), byte(end), byte(size)}) + bytes)
	return s[:62] + string([]byte{byte(again >> 8), byte(again)})
}

// good returns a log block that is complete.
func good(number int, piece string, ends bool) string {
	end := 0
	if ends {
		end = 1
	}
	return logBlock(number, end, len(piece), piece, number)
}

// header returns a block with two generations and bytes 0 between them.
func header(gen, again uint32) string {
	b := make([]byte, api.Block)
	for i := range 4 {
		b[i], b[60+i] = byte(gen>>(24-8*i)), byte(again>>(24-8*i))
	}
	return string(b)
}

// The chapter's examples.
func TestExamples(t *testing.T) {
	same(t, "Needs(0)", region.Needs(0), 1)
	same(t, "Needs(58)", region.Needs(58), 1)
	same(t, "Needs(59)", region.Needs(59), 2)
	l, d := onDevice(256, -1)
	r := format(t, l, 64, 64)
	same(t, "Append", r.Append("ab"), api.OK)
	same(t, "Append", r.Append(xs(59)), api.OK)
	same(t, "Left", r.Left(), 60)
	holds(t, l, 64, 64, 0, "ab", xs(59))
	s, _ := d.Read(65)
	same(t, "block 65: its first six bytes", s[:6], "\x00\x01\x01\x02\x61\x62")
	same(t, "block 65: its last two", s[62:], "\x00\x01")
	same(t, "Seal", r.Seal(7), api.OK)
	holds(t, l, 64, 64, 7, "ab", xs(59))
	same(t, "Append of 3481 bytes", r.Append(xs(3481)), api.ErrFull)
	same(t, "Append of 3480 bytes", r.Append(xs(3480)), api.OK)
	same(t, "Left", r.Left(), 0)
	same(t, "Seal(0)", r.Seal(0), api.ErrArg)
	refused(t, l, 0, 1, api.ErrArg)
	refused(t, l, 200, 64, api.ErrArg)
}

// P13.1: a block for each 58 bytes that were begun, and one for a group without bytes.
func TestNeeds(t *testing.T) {
	same(t, "Piece", region.Piece, 58)
	for n, want := range map[int]int{
		math.MinInt: 1, math.MinInt + 1: 1, -59: 1, -1: 1, 0: 1, 1: 1, 57: 1, 58: 1, 59: 2, 116: 2, 117: 3, 3480: 60, 3481: 61,
		58*1000 - 1: 1000, 58 * 1000: 1000, 58*1000 + 1: 1001, math.MaxInt: math.MaxInt/58 + 1,
	} {
		same(t, fmt.Sprintf("Needs(%d)", n), region.Needs(n), want)
	}
	for n := range 2000 {
		blocks := 1
		for ; blocks*58 < n; blocks++ {
		}
		same(t, fmt.Sprintf("Needs(%d)", n), region.Needs(n), blocks)
	}
}

// P13.1 and P13.3: no line, and lines that lead to no device.
func TestNoLine(t *testing.T) {
	l, _ := onDevice(256, -1)
	other := *l // leads to no device
	for _, none := range []*line.Line{nil, {}, line.New(nil, 0, nil), &other} {
		for _, c := range [][2]int{{64, 64}, {0, 1}, {-1, 64}, {math.MaxInt, math.MinInt}} {
			refused(t, none, c[0], c[1], api.ErrNil)
		}
	}
	same(t, "Acts", l.Acts(), 0)
}

// P13.1 and P13.3: ranges that there are, and that there aren't.
func TestRanges(t *testing.T) {
	for _, blocks := range []int{256, 2048} {
		for _, c := range [][2]int{
			{-1, 2}, {-1, 64}, {math.MinInt, 2}, {math.MinInt, math.MaxInt},
			{0, 1}, {0, 0}, {0, -1}, {5, math.MinInt}, {blocks, 0}, {blocks - 1, 1}, {blocks + 5, -5},
			{0, blocks + 1}, {1, blocks}, {blocks - 1, 2}, {blocks, 2}, {blocks - 2, 3},
			{0, 65536}, {0, 65537}, {0, math.MaxInt}, {math.MaxInt, 2}, {math.MaxInt, math.MaxInt}, {math.MaxInt - 1, 2}, {math.MaxInt - 65535, 65536},
		} {
			l, d := onDevice(blocks, 0, 1)
			refused(t, l, c[0], c[1], api.ErrArg)
			same(t, "Acts", l.Acts(), 0)
			alike(t, "Fresh", d.Fresh(), nil)
			l.Blow()
			refused(t, l, c[0], c[1], api.ErrArg) // ahead of the error of the line
		}
		for _, c := range [][2]int{{0, 2}, {0, blocks}, {1, blocks - 1}, {blocks - 2, 2}, {7, 9}} {
			l, _ := onDevice(blocks, -1)
			r := format(t, l, c[0], c[1])
			same(t, "Left", r.Left(), c[1]-1)
			holds(t, l, c[0], c[1], 0)
			same(t, "Acts", l.Acts(), c[1]+1)
		}
	}
}

// P13.1 and P13.5: Format makes the blocks of the region empty, and firm, and no others.
func TestFormat(t *testing.T) {
	l, d := onDevice(256, -1)
	for at := range 256 {
		d.Write(at, good(at-9, xs(58), true))
	}
	d.Write(9, header(5, 5))
	d.Flush()
	r := format(t, l, 9, 20)
	same(t, "Acts", l.Acts(), 21)
	same(t, "Left", r.Left(), 19)
	alike(t, "Fresh", d.Fresh(), nil)
	for at := range 256 {
		if at < 9 || at >= 29 {
			reads(t, d, at, good(at-9, xs(58), true))
		} else {
			reads(t, d, at, "")
		}
	}
	holds(t, l, 9, 20, 0)
}

// P13.1: the steps of Format come in this order, and the first error of the line ends it.
func TestFormatOfCutLine(t *testing.T) {
	for cut := range 6 { // the acts are 5 Writes, and a Flush
		for choice := range 2 { // 0: not even the act that cuts is performed; 65: it is, and nothing is lost
			l, d := onDevice(256, cut, choice*65)
			for at := range 20 {
				d.Write(at, "old")
			}
			d.Flush()
			r, e := region.Format(l, 10, 5)
			same(t, "Format", r, nil)
			same(t, "error of Format", e, api.ErrDown)
			same(t, "Acts", l.Acts(), cut+1)
			for at := range 20 {
				want := "old"
				if choice == 1 && at >= 10 && at <= min(10+cut, 14) {
					want = ""
				}
				reads(t, d, at, want)
			}
		}
	}
	l, d := onDevice(256, -1, 65)
	l.Blow()
	refused(t, l, 10, 5, api.ErrDown)
	alike(t, "Fresh", d.Fresh(), nil)
	same(t, "Acts", l.Acts(), 0)
}

// answersNil ends the test unless r answers as a region that there isn't.
func answersNil(t *testing.T, what string, r *region.Region) {
	t.Helper()
	for range 2 {
		same(t, what+": Append", r.Append("x"), api.ErrNil)
		same(t, what+": Append", r.Append(xs(1000000)), api.ErrNil)
		same(t, what+": Seal(0)", r.Seal(0), api.ErrNil)
		same(t, what+": Seal", r.Seal(1), api.ErrNil)
		same(t, what+": Flush", r.Flush(), api.ErrNil)
		same(t, what+": Left", r.Left(), 0)
	}
}

// P13.2: nil, and regions that Format did not return.
func TestNotMade(t *testing.T) {
	answersNil(t, "nil", nil)
	answersNil(t, "a zero value", &region.Region{})
	answersNil(t, "a new one", new(region.Region))
	l, _ := onDevice(256, 12, 1)
	r := format(t, l, 64, 10)
	same(t, "Append", r.Append("ab"), api.OK)
	other := *r
	answersNil(t, "a copy of the struct", &other)
	same(t, "Acts", l.Acts(), 12) // nothing was done to what the structs share
	same(t, "Left", r.Left(), 8)
	same(t, "Append", r.Append("x"), api.ErrDown)
	other = *r
	answersNil(t, "a copy of the struct of a region that is in a bad state", &other)
}

// P13.2: the blocks of groups, byte by byte.
func TestAppend(t *testing.T) {
	for _, at := range []int{0, 64, 192} {
		l, d := onDevice(256, -1)
		r := format(t, l, at, 64)
		long := strings.Repeat("0123456789", 13) // 130 bytes
		for _, group := range []string{"", "ab", xs(58), xs(59), long, "\x00", xs(116)} {
			same(t, "Append", r.Append(group), api.OK)
		}
		for i, want := range []string{
			good(1, "", true), good(2, "ab", true), good(3, xs(58), true),
			good(4, xs(58), false), good(5, "x", true),
			good(6, long[:58], false), good(7, long[58:116], false), good(8, long[116:], true),
			good(9, "\x00", true), good(10, xs(58), false), good(11, xs(58), true),
		} {
			reads(t, d, at+1+i, want)
		}
		reads(t, d, at, "")
		for i := 12; i < 64; i++ {
			reads(t, d, at+i, "")
		}
		same(t, "Left", r.Left(), 52)
		same(t, "Acts", l.Acts(), 65+11) // no Flush
		same(t, "number of fresh blocks", len(d.Fresh()), 11)
		holds(t, l, at, 64, 0, "", "ab", xs(58), xs(59), long, "\x00", xs(116))
	}
}

// P13.2 and P13.3: numbers of blocks beyond one byte, up to the last block of the greatest device.
func TestNumbers(t *testing.T) {
	l, d := onDevice(2048, -1)
	r := format(t, l, 0, 2048)
	var groups []string
	for i := range 2047 {
		groups = append(groups, fmt.Sprint(i))
		same(t, "Append", r.Append(groups[i]), api.OK)
		same(t, "Left", r.Left(), 2046-i)
	}
	for i, group := range groups {
		reads(t, d, i+1, good(i+1, group, true))
	}
	same(t, "Append", r.Append(""), api.ErrFull)
	holds(t, l, 0, 2048, 0, groups...)
	r = format(t, l, 0, 2048)
	same(t, "Append", r.Append(xs(58*2047+1)), api.ErrFull)
	same(t, "Append", r.Append(xs(58*2047)), api.OK)
	holds(t, l, 0, 2048, 0, xs(58*2047))
	reads(t, d, 256, good(256, xs(58), false))
	reads(t, d, 2047, good(2047, xs(58), true))
}

// P13.2: an Append that needs more blocks than are left changes nothing, and a smaller one is still possible.
func TestFull(t *testing.T) {
	for n := 2; n < 9; n++ {
		for used := range n {
			l, d := onDevice(256, -1)
			r := format(t, l, 64, n)
			var groups []string
			for range used {
				same(t, "Append", r.Append("ab"), api.OK)
				groups = append(groups, "ab")
			}
			left := n - 1 - used
			for _, more := range []int{1, 58, 59, 100000} {
				acts := l.Acts()
				same(t, "Append", r.Append(xs(58*left+more)), api.ErrFull)
				same(t, "Left", r.Left(), left)
				same(t, "Acts", l.Acts(), acts)
			}
			if left == 0 {
				same(t, "Append", r.Append(""), api.ErrFull)
			} else {
				same(t, "Append", r.Append(xs(58*left)), api.OK)
				groups = append(groups, xs(58*left))
			}
			same(t, "Left", r.Left(), 0)
			same(t, "Seal", r.Seal(1), api.OK)
			same(t, "Append", r.Append(""), api.ErrFull)
			holds(t, l, 64, n, 1, groups...)
			reads(t, d, 64+n, "")
			reads(t, d, 63, "")
		}
	}
}

// P13.2: the header that Seal writes, byte by byte; the line is flushed.
func TestSeal(t *testing.T) {
	l, d := onDevice(256, -1)
	r := format(t, l, 64, 64)
	gens := []uint32{1, 7, 255, 256, 0x01020304, 65536, 1 << 24, math.MaxInt32, math.MaxUint32, 1}
	for i, gen := range gens {
		same(t, "Append", r.Append(fmt.Sprint(gen)), api.OK)
		acts := l.Acts()
		same(t, "Seal", r.Seal(gen), api.OK)
		same(t, "acts of Seal", l.Acts()-acts, 2)
		reads(t, d, 64, header(gen, gen))
		alike(t, "Fresh", d.Fresh(), nil)
		same(t, "Left", r.Left(), 62-i)
	}
	s, _ := d.Read(64)
	same(t, "first bytes", s[:5], "\x00\x00\x00\x01\x00")
	same(t, "last bytes", s[59:], "\x00\x00\x00\x00\x01")
	for range 3 {
		acts := l.Acts()
		same(t, "Seal(0)", r.Seal(0), api.ErrArg)
		same(t, "acts of Seal(0)", l.Acts()-acts, 0)
	}
	same(t, "Append", r.Append("x"), api.OK) // what is refused is no error of the line
	same(t, "Seal", r.Seal(9), api.OK)
	holds(t, l, 64, 64, 9, "1", "7", "255", "256", "16909060", "65536", "16777216", "2147483647", "4294967295", "1", "x")
}

// P13.2: Flush is the line's.
func TestFlush(t *testing.T) {
	l, d := onDevice(256, -1)
	r := format(t, l, 64, 64)
	same(t, "Flush", r.Flush(), api.OK)
	same(t, "Acts", l.Acts(), 66)
	same(t, "Append", r.Append(xs(59)), api.OK)
	d.Write(3, "x")
	alike(t, "Fresh", d.Fresh(), []int{3, 65, 66})
	same(t, "Flush", r.Flush(), api.OK)
	alike(t, "Fresh", d.Fresh(), nil)
	same(t, "Acts", l.Acts(), 69)
	same(t, "Left", r.Left(), 61)
}

// isBad ends the test unless r answers as a region after an error of the line, with so many blocks left.
func isBad(t *testing.T, r *region.Region, l *line.Line, left int) {
	t.Helper()
	acts := l.Acts()
	for range 2 {
		same(t, "Append", r.Append("x"), api.ErrState)
		same(t, "Append of too many bytes", r.Append(xs(100000)), api.ErrState)
		same(t, "Flush", r.Flush(), api.ErrState)
		same(t, "Seal(0)", r.Seal(0), api.ErrArg)
		same(t, "Seal", r.Seal(1), api.ErrState)
		same(t, "Left", r.Left(), left)
	}
	same(t, "Acts", l.Acts(), acts)
}

// P13.2: after an error of the line that one of the calls returned, all of them return ErrState.
func TestBadState(t *testing.T) {
	for _, c := range []struct {
		what string
		call func(r *region.Region) api.Errno
		acts int
	}{
		{"Append", func(r *region.Region) api.Errno { return r.Append("x") }, 1},
		{"Append", func(r *region.Region) api.Errno { return r.Append(xs(100)) }, 2},
		{"Append", func(r *region.Region) api.Errno { return r.Append(xs(58 * 4)) }, 4},
		{"Flush", (*region.Region).Flush, 1},
		{"Seal", func(r *region.Region) api.Errno { return r.Seal(5) }, 2},
	} {
		for i := range c.acts {
			for choice := range 2 { // 65 has the act that cuts performed
				l, _ := onDevice(256, 11+1+i, choice*65)
				r := format(t, l, 64, 10)
				same(t, "Append", r.Append("ab"), api.OK)
				same(t, c.what, c.call(r), api.ErrDown)
				same(t, "Acts", l.Acts(), 11+1+i+1)
				isBad(t, r, l, 8)
			}
		}
		l, _ := onDevice(256, -1)
		r := format(t, l, 64, 10)
		l.Blow()
		same(t, "Append of too many bytes", r.Append(xs(58*9+1)), api.ErrFull) // the line isn't asked
		same(t, "Seal(0)", r.Seal(0), api.ErrArg)
		same(t, c.what, c.call(r), api.ErrDown)
		isBad(t, r, l, 9)
	}
}

// P13.3: Read has errors of the line as its own.
func TestReadOfCutLine(t *testing.T) {
	l, d := onDevice(256, -1, 65)
	r := format(t, l, 64, 10)
	same(t, "Append", r.Append("ab"), api.OK)
	same(t, "Seal", r.Seal(5), api.OK)
	l.Blow()
	isTorn(t, l, 64, 10, api.ErrDown)
	holds(t, line.New(d, -1, nil), 64, 10, 5, "ab")
}

// P13.3: headers that are complete, and others.
func TestHeaders(t *testing.T) {
	l, d := onDevice(256, -1)
	for _, gen := range []uint32{0, 1, 255, 256, 1 << 16, 1 << 24, 1 << 31, 0x01020304, math.MaxUint32} {
		d.Write(64, header(gen, gen))
		holds(t, l, 64, 2, gen)
		for bit := range 32 {
			d.Write(64, header(gen, gen^1<<bit))
			holds(t, l, 64, 2, 0)
			d.Write(64, header(gen^1<<bit, gen))
			holds(t, l, 64, 2, 0)
		}
		for i := 4; i < 60; i++ {
			for _, b := range []byte{1, 128, 255} {
				s := []byte(header(gen, gen))
				s[i] = b
				d.Write(64, string(s))
				holds(t, l, 64, 2, 0)
			}
		}
	}
}

// P13.3: a log block that is not complete ends the contents; the groups ahead of it stay, and those behind it don't count.
func TestLogBlocks(t *testing.T) {
	for _, c := range []struct {
		what, block string
		groups      []string
	}{
		{"empty", "", nil},
		{"complete", good(3, "cd", true), []string{"cd", "e"}},
		{"complete, without bytes", good(3, "", true), []string{"", "e"}},
		{"complete, goes on", good(3, xs(58), false), []string{xs(58) + "e"}},
		{"complete, with 58 bytes", good(3, xs(58), true), []string{xs(58), "e"}},
		{"complete, its bytes 0", good(3, "\x00\x00", true), []string{"\x00\x00", "e"}},
		{"another number", good(2, "cd", true), nil},
		{"another number", good(4, "cd", true), nil},
		{"the number 0", good(0, "cd", true), nil},
		{"number of two bytes", good(0x103, "cd", true), nil},
		{"number in the other order", good(0x300, "cd", true), nil},
		{"another number at the beginning", logBlock(2, 1, 2, "cd", 3), nil},
		{"another number at the end", logBlock(3, 1, 2, "cd", 2), nil},
		{"high byte of the number at the beginning", logBlock(0x103, 1, 2, "cd", 3), nil},
		{"high byte of the number at the end", logBlock(3, 1, 2, "cd", 0x103), nil},
		{"no number at the end", logBlock(3, 1, 2, "cd", 0), nil},
		{"a group ends by 2", logBlock(3, 2, 2, "cd", 3), nil},
		{"a group ends by 255", logBlock(3, 255, 2, "cd", 3), nil},
		{"58 bytes, a group ends by 2", logBlock(3, 2, 58, xs(58), 3), nil},
		{"59 bytes", logBlock(3, 1, 59, xs(58), 3), nil},
		{"59 bytes, goes on", logBlock(3, 0, 59, xs(58), 3), nil},
		{"255 bytes", logBlock(3, 1, 255, xs(58), 3), nil},
		{"255 bytes, goes on", logBlock(3, 0, 255, xs(58), 3), nil},
		{"57 bytes, goes on", good(3, xs(57), false), nil},
		{"no bytes, goes on", good(3, "", false), nil},
		{"a byte too many", logBlock(3, 1, 2, "cdx", 3), nil},
		{"a byte too many at the end", logBlock(3, 1, 2, "cd"+strings.Repeat("\x00", 55)+"x", 3), nil},
		{"a byte too many, of 57", logBlock(3, 1, 57, xs(58), 3), nil},
		{"a byte too many, of none", logBlock(3, 1, 0, "x", 3), nil},
	} {
		l, d := onDevice(256, -1)
		d.Write(64, header(5, 5))
		d.Write(65, good(1, "ab", true))
		d.Write(66, good(2, xs(58), false))
		d.Write(67, c.block)
		d.Write(68, good(4, "e", true))
		want := []string{"ab"}
		if c.groups != nil {
			want = append(want, xs(58)+c.groups[0])
			want = append(want, c.groups[1:]...)
		}
		t.Run(c.what, func(t *testing.T) {
			holds(t, l, 64, 10, 5, want...)
			holds(t, l, 64, 5, 5, want...)
			holds(t, l, 64, 3, 5, "ab")
			d.Write(64, "no header")
			holds(t, l, 64, 10, 0, want...) // the header has no say in the groups
		})
	}
}

// P13.3: a group that doesn't end isn't there, even if its blocks reach the end of the region.
func TestNoEnd(t *testing.T) {
	for n := 2; n < 9; n++ {
		l, d := onDevice(256, -1)
		for i := 1; i < n; i++ {
			d.Write(64+i, good(i, xs(58), false))
		}
		d.Write(64+n, good(n, "ab", true)) // beyond the region
		holds(t, l, 64, n, 0)
		holds(t, l, 64, n+1, 0, xs(58*(n-1))+"ab")
	}
}

// P13.3: what is read is what stands there, whoever wrote it; also a block that no Append writes.
func TestOddGroup(t *testing.T) {
	l, d := onDevice(256, -1)
	d.Write(65, good(1, xs(58), false))
	d.Write(66, good(2, "", true))
	d.Write(67, good(3, "ab", true))
	holds(t, l, 64, 10, 0, xs(58), "ab")
	holds(t, l, 65, 3, 0) // from another block on, the numbers are wrong
}

// P13.2 and P13.5: regions beside each other on one line are separate.
func TestTwoRegions(t *testing.T) {
	l, d := onDevice(256, -1)
	a, b := format(t, l, 0, 10), format(t, l, 10, 5)
	same(t, "Append", a.Append("ab"), api.OK)
	same(t, "Append", b.Append(xs(58*4)), api.OK)
	same(t, "Append", a.Append(xs(58*8)), api.OK)
	same(t, "Seal", a.Seal(3), api.OK)
	holds(t, l, 0, 10, 3, "ab", xs(58*8))
	holds(t, l, 10, 5, 0, xs(58*4))
	same(t, "Left", a.Left(), 0)
	same(t, "Left", b.Left(), 0)
	same(t, "Seal", b.Seal(4), api.OK)
	a = format(t, l, 0, 10)
	holds(t, l, 0, 10, 0)
	holds(t, l, 10, 5, 4, xs(58*4))
	reads(t, d, 15, "")
	same(t, "Left", a.Left(), 9)
}
