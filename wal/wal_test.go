package wal_test

import (
	"fmt"
	"math"
	"slices"
	"strings"
	"testing"

	"revert/api"
	"revert/device"
	"revert/line"
	"revert/region"
	"revert/wal"
)

// same ends the test unless got and want are equal.
func same[T comparable](t *testing.T, what string, got, want T) {
	t.Helper()
	if got != want {
		t.Fatalf("%s: got %v, want %v", what, got, want)
	}
}

// alike ends the test unless got and want have the same items, in the same order.
func alike[T comparable](t *testing.T, what string, got, want []T) {
	t.Helper()
	if !slices.Equal(got, want) {
		t.Fatalf("%s: got %q, want %q", what, fmt.Sprint(got), fmt.Sprint(want))
	}
}

// xs returns n bytes x.
func xs(n int) string { return strings.Repeat("x", n) }

// full returns s, followed by bytes 0 up to those of a block.
func full(s string) string { return s + strings.Repeat("\x00", api.Block-len(s)) }

// onDevice returns a line to a new device, and the device.
func onDevice(n, cut int, choices ...int) (*line.Line, *device.Device) {
	d := device.New(n)
	return line.New(d, cut, choices), d
}

// made returns a log of Make.
func made(t *testing.T, l *line.Line, dump string) *wal.Wal {
	t.Helper()
	w, e := wal.Make(l, dump)
	same(t, "error of Make", e, api.OK)
	if w == nil {
		t.Fatal("Make: nil")
	}
	return w
}

// opened returns a log of Open, which has these groups.
func opened(t *testing.T, l *line.Line, groups ...string) *wal.Wal {
	t.Helper()
	w, got, e := wal.Open(l)
	same(t, "error of Open", e, api.OK)
	if w == nil {
		t.Fatal("Open: nil")
	}
	alike(t, "groups", got, groups)
	return w
}

// holds ends the test unless Open finds these on the device, twice, and changes nothing.
func holds(t *testing.T, d *device.Device, gen uint32, groups ...string) {
	t.Helper()
	before := d.Copy()
	l := line.New(d, -1, nil)
	for range 2 {
		same(t, "Gen of what was opened", opened(t, l, groups...).Gen(), gen)
	}
	same(t, "acts of Open", l.Acts(), 0)
	equal(t, "after Open", d, before)
}

// equal ends the test unless both devices have the same bytes, fresh and firm.
func equal(t *testing.T, what string, got, want *device.Device) {
	t.Helper()
	same(t, what+": Blocks", got.Blocks(), want.Blocks())
	alike(t, what+": Fresh", got.Fresh(), want.Fresh())
	for at := range got.Blocks() {
		a, _ := got.Read(at)
		b, _ := want.Read(at)
		c, _ := got.Firm(at)
		d, _ := want.Firm(at)
		if a != b || c != d {
			t.Fatalf("%s: block %d: got %q, firm %q; want %q, firm %q", what, at, a, c, b, d)
		}
	}
}

// notMade ends the test unless Make returns the error want, and no log.
func notMade(t *testing.T, l *line.Line, dump string, want api.Errno) {
	t.Helper()
	w, e := wal.Make(l, dump)
	same(t, "Make", w, nil)
	same(t, "error of Make", e, want)
}

// notOpened ends the test unless Open returns the error want, and nothing else.
func notOpened(t *testing.T, l *line.Line, want api.Errno) {
	t.Helper()
	w, groups, e := wal.Open(l)
	same(t, "Open", w, nil)
	same(t, "number of groups", len(groups), 0)
	same(t, "error of Open", e, want)
}

// header returns the header of a region.
func header(gen uint32) string {
	b := make([]byte, api.Block)
	for i := range 4 {
		b[i] = byte(gen >> (24 - 8*i))
		b[60+i] = b[i]
	}
	return string(b)
}

// logBlock returns the log block with the number i.
func logBlock(i int, piece string, ends bool) string {
	end := byte(0)
	if ends {
		end = 1
	}
	number := string([]byte{byte(i >> 8), byte(i)})
	return full(number + string([]byte{end, byte(len(piece))}) + piece)[:62] + number
}

// sealed puts a region with a generation on the device, by hand.
func sealed(t *testing.T, d *device.Device, side int, gen uint32, groups ...string) {
	t.Helper()
	n := d.Blocks() / 4
	r, e := region.Format(line.New(d, -1, nil), side*n, n)
	same(t, "error of Format", e, api.OK)
	for _, group := range groups {
		same(t, "Append", r.Append(group), api.OK)
	}
	same(t, "Flush", r.Flush(), api.OK)
	if gen > 0 {
		same(t, "Seal", r.Seal(gen), api.OK)
	}
}

// The chapter's examples.
func TestExamples(t *testing.T) {
	l, d := onDevice(256, -1)
	notOpened(t, l, api.ErrNone)
	w := made(t, l, "ab")
	same(t, "Gen", w.Gen(), 1)
	same(t, "Room", w.Room(), 3654)
	same(t, "Commit(cd)", w.Commit("cd"), api.OK)
	same(t, "Commit of the empty string", w.Commit(""), api.OK)
	w = opened(t, l, "ab", "cd", "")
	same(t, "Commit(x)", w.Commit("x"), api.ErrState)
	same(t, "Checkpoint(ef)", w.Checkpoint("ef"), api.OK)
	same(t, "Commit(gh)", w.Commit("gh"), api.OK)
	same(t, "Gen", w.Gen(), 2)
	holds(t, d, 2, "ef", "gh")
	same(t, "Checkpoint of 3655 bytes", w.Checkpoint(xs(3655)), api.ErrFull)
	same(t, "Checkpoint of 3654 bytes", w.Checkpoint(xs(3654)), api.OK)
	same(t, "Fits(0)", w.Fits(0), false)
	same(t, "Commit of the empty string", w.Commit(""), api.ErrFull)
	holds(t, d, 3, xs(3654))
	notMade(t, nil, "ab", api.ErrNil)
	l.Blow()
	notOpened(t, l, api.ErrDown)
}

// P14.1 and P14.2: no line, and lines that lead to no device; that counts ahead of a dump that is too long.
func TestNoLine(t *testing.T) {
	l, d := onDevice(256, -1)
	other := *l // leads to no device
	for _, none := range []*line.Line{nil, {}, line.New(nil, 0, nil), &other} {
		for _, dump := range []string{"", "ab", xs(3654), xs(3655), xs(1000000)} {
			notMade(t, none, dump, api.ErrNil)
		}
		notOpened(t, none, api.ErrNil)
	}
	same(t, "Acts", l.Acts(), 0)
	equal(t, "nothing was done", d, device.New(256))
}

// P14.1 and P14.3: the longest dump, for many numbers of blocks, and those that are too long, of which nothing is written.
func TestRoom(t *testing.T) {
	for _, c := range [][2]int{{256, 3654}, {257, 3654}, {258, 3654}, {259, 3654}, {260, 3712}, {263, 3712}, {264, 3770}, {1000, 249 * 58}, {2047, 510 * 58}, {2048, 511 * 58}} {
		blocks, room := c[0], c[1]
		l, d := onDevice(blocks, -1)
		for _, more := range []int{1, 2, 58, 100000} {
			notMade(t, l, xs(room+more), api.ErrFull)
		}
		same(t, "Acts", l.Acts(), 0)
		equal(t, "nothing was done", d, device.New(blocks))
		for _, n := range []int{room, room - 1, 0} {
			w := made(t, l, xs(n))
			same(t, "Room", w.Room(), room)
			same(t, "Gen", w.Gen(), 1)
			same(t, "Checkpoint", w.Checkpoint(xs(room+1)), api.ErrFull)
			holds(t, d, 1, xs(n))
			same(t, "Room of what was opened", opened(t, l, xs(n)).Room(), room)
			same(t, "Checkpoint", w.Checkpoint(xs(room)), api.OK)
			same(t, "Room", w.Room(), room)
			holds(t, d, 2, xs(room))
		}
	}
	l, d := onDevice(256, -1, 65)
	l.Blow()
	notMade(t, l, xs(3655), api.ErrFull) // ahead of the error of the line
	notMade(t, l, xs(3654), api.ErrDown)
	same(t, "Acts", l.Acts(), 0)
	equal(t, "nothing was done", d, device.New(256))
}

// P14.1: where the bytes of a log are, and that other blocks stay as they are.
func TestBlocks(t *testing.T) {
	for _, blocks := range []int{256, 259, 2048} {
		l, d := onDevice(blocks, -1)
		for at := range blocks {
			d.Write(at, fmt.Sprint("old ", at))
		}
		d.Flush()
		n := blocks / 4
		w := made(t, l, "ab")
		same(t, "Commit", w.Commit(xs(59)), api.OK)
		want := map[int]string{0: header(1), 1: logBlock(1, "ab", true), 2: logBlock(2, xs(58), false), 3: logBlock(3, "x", true)}
		isOn(t, d, n, want)
		same(t, "Checkpoint", w.Checkpoint(""), api.OK)
		want[n], want[n+1] = header(2), logBlock(1, "", true)
		isOn(t, d, n, want)
		same(t, "Commit", w.Commit("cd"), api.OK)
		want[n+2] = logBlock(2, "cd", true)
		isOn(t, d, n, want)
		same(t, "Checkpoint", w.Checkpoint(xs(58)), api.OK)
		want[0], want[1] = header(3), logBlock(1, xs(58), true)
		delete(want, 2)
		delete(want, 3)
		isOn(t, d, n, want)
	}
}

// isOn ends the test unless the two regions of n blocks have these blocks, and empty ones, all of them firm, and the others what they had.
func isOn(t *testing.T, d *device.Device, n int, want map[int]string) {
	t.Helper()
	alike(t, "Fresh", d.Fresh(), nil)
	for at := range d.Blocks() {
		s := full(want[at])
		if at >= 2*n {
			s = full(fmt.Sprint("old ", at))
		}
		got, _ := d.Read(at)
		same(t, fmt.Sprint("block ", at), got, s)
	}
}

// P14.1: a log of Make counts, whatever was on the device; it is writable.
func TestMakeOverOld(t *testing.T) {
	for _, gens := range [][2]uint32{{0, 0}, {1, 0}, {0, 1}, {1, 2}, {7, 6}, {5, 5}, {math.MaxUint32, math.MaxUint32 - 1}, {math.MaxUint32 - 1, math.MaxUint32}} {
		l, d := onDevice(256, -1)
		sealed(t, d, 0, gens[0], "old", "older")
		sealed(t, d, 1, gens[1], "of the second", xs(200), "")
		w := made(t, l, "new")
		same(t, "Gen", w.Gen(), 1)
		holds(t, d, 1, "new")
		same(t, "Commit", w.Commit("more"), api.OK)
		holds(t, d, 1, "new", "more")
		same(t, "Checkpoint", w.Checkpoint("again"), api.OK)
		holds(t, d, 2, "again")
	}
}

// P14.2: the region with the greater generation is used; the first one, if they are equal.
func TestOpenTakesTheGreater(t *testing.T) {
	gens := []uint32{0, 1, 2, 255, 256, 1 << 24, math.MaxInt32, 1 << 31, math.MaxUint32 - 1, math.MaxUint32}
	for _, one := range gens {
		for _, two := range gens {
			l, d := onDevice(256, -1)
			sealed(t, d, 0, one, "one", "")
			sealed(t, d, 1, two, "two", xs(100), "end")
			if one == 0 && two == 0 {
				notOpened(t, l, api.ErrNone)
				continue
			}
			gen, groups := one, []string{"one", ""}
			other := 1
			if two > one {
				gen, groups, other = two, []string{"two", xs(100), "end"}, 0
			}
			holds(t, d, gen, groups...)
			w := opened(t, l, groups...)
			isReadOnly(t, w)
			if gen == math.MaxUint32 {
				same(t, "Checkpoint", w.Checkpoint("new"), api.ErrCount)
				holds(t, d, gen, groups...)
				continue
			}
			same(t, "Checkpoint", w.Checkpoint("new"), api.OK)
			same(t, "Gen", w.Gen(), gen+1)
			holds(t, d, gen+1, "new")
			s, _ := d.Read(64 * other)
			same(t, "header of the other region", s, header(gen+1))
		}
	}
}

// isReadOnly ends the test unless w answers as a log that is not writable.
func isReadOnly(t *testing.T, w *wal.Wal) {
	t.Helper()
	for range 2 {
		same(t, "Commit", w.Commit(""), api.ErrState)
		same(t, "Commit", w.Commit("x"), api.ErrState)
		same(t, "Commit of too many bytes", w.Commit(xs(1000000)), api.ErrState)
		for _, n := range []int{math.MinInt, -1, 0, 1, 58, math.MaxInt} {
			same(t, fmt.Sprintf("Fits(%d)", n), w.Fits(n), false)
		}
	}
}

// P14.2: a region that is sealed without any group is used, too.
func TestOpenWithoutGroups(t *testing.T) {
	l, d := onDevice(256, -1)
	sealed(t, d, 0, 4, "one")
	sealed(t, d, 1, 5)
	holds(t, d, 5)
	w := opened(t, l)
	same(t, "Checkpoint", w.Checkpoint("x"), api.OK)
	holds(t, d, 6, "x")
}

// P14.2: Open goes by what is read, and has the error of a line that is cut.
func TestOpenOfCutLine(t *testing.T) {
	l, d := onDevice(256, -1, 65)
	made(t, l, "ab")
	l.Blow()
	notOpened(t, l, api.ErrDown)
	notOpened(t, l, api.ErrDown)
	holds(t, d, 1, "ab")
	l, d = onDevice(256, 0)
	notOpened(t, l, api.ErrNone)
	same(t, "Acts", l.Acts(), 0)
	l.Blow()
	notOpened(t, l, api.ErrDown) // ahead of ErrNone
}

// answersNil ends the test unless w answers as a log that there isn't.
func answersNil(t *testing.T, what string, w *wal.Wal) {
	t.Helper()
	for range 2 {
		same(t, what+": Commit", w.Commit("x"), api.ErrNil)
		same(t, what+": Commit of too many bytes", w.Commit(xs(1000000)), api.ErrNil)
		same(t, what+": Checkpoint", w.Checkpoint("x"), api.ErrNil)
		same(t, what+": Checkpoint of too many bytes", w.Checkpoint(xs(1000000)), api.ErrNil)
		same(t, what+": Fits(0)", w.Fits(0), false)
		same(t, what+": Fits(-1)", w.Fits(-1), false)
		same(t, what+": Room", w.Room(), 0)
		same(t, what+": Gen", w.Gen(), 0)
	}
}

// P14.3: nil, and logs that neither Make nor Open returned.
func TestNotMade(t *testing.T) {
	answersNil(t, "nil", nil)
	answersNil(t, "a zero value", &wal.Wal{})
	answersNil(t, "a new one", new(wal.Wal))
	l, d := onDevice(256, -1)
	w := made(t, l, "ab")
	before := d.Copy()
	other := *w
	answersNil(t, "a copy of the struct", &other)
	other = *opened(t, l, "ab")
	answersNil(t, "a copy of the struct of a log of Open", &other)
	equal(t, "nothing was done", d, before)
	same(t, "Commit", w.Commit("cd"), api.OK)
	l.Blow()
	same(t, "Commit", w.Commit("ef"), api.ErrDown)
	other = *w
	answersNil(t, "a copy of the struct of a log that is unusable", &other)
}

// needs returns how many log blocks a group of n bytes takes.
func needs(n int) int {
	blocks := 1
	for ; blocks*58 < n; blocks++ {
	}
	return blocks
}

// fits ends the test unless exactly the groups fit for which left log blocks are enough.
func fits(t *testing.T, w *wal.Wal, left int) {
	t.Helper()
	for _, n := range []int{math.MinInt, -59, -58, -1, 0, 1, 57, 58} {
		same(t, fmt.Sprintf("Fits(%d) with %d blocks left", n, left), w.Fits(n), left > 0)
	}
	for n := 59; n < 4000; n++ {
		same(t, fmt.Sprintf("Fits(%d) with %d blocks left", n, left), w.Fits(n), needs(n) <= left)
	}
	for _, n := range []int{29639, math.MaxInt32, math.MaxInt - 1, math.MaxInt} {
		same(t, fmt.Sprintf("Fits(%d)", n), w.Fits(n), false)
	}
}

// P14.3, P14.4 and P14.7: what fits, group by group; what doesn't changes nothing.
func TestFits(t *testing.T) {
	l, d := onDevice(256, -1)
	for _, dump := range []int{0, 58, 59, 300, 3596, 3597, 3654} {
		w := made(t, l, xs(dump))
		groups := []string{xs(dump)}
		left := 63 - needs(dump)
		for _, n := range []int{0, 5, 58, 59, 116, 1000, 4000, 700, 58, 600, 500, 3, 250, 200, 0, 59, 58, 0} {
			fits(t, w, left)
			if needs(n) > left {
				refuses(t, w, l, n)
				continue
			}
			same(t, "Commit", w.Commit(xs(n)), api.OK)
			groups = append(groups, xs(n))
			left -= needs(n)
			holds(t, d, 1, groups...)
		}
		for ; left > 0; left-- {
			fits(t, w, left)
			refuses(t, w, l, 58*left+1)
			same(t, "Commit", w.Commit(""), api.OK)
		}
		fits(t, w, 0)
		refuses(t, w, l, 0)
	}
}

// refuses ends the test unless a Commit of n bytes returns ErrFull, and changes nothing.
func refuses(t *testing.T, w *wal.Wal, l *line.Line, n int) {
	t.Helper()
	acts, before, gen := l.Acts(), l.Device().Copy(), w.Gen()
	same(t, fmt.Sprintf("Commit of %d bytes", n), w.Commit(xs(n)), api.ErrFull)
	same(t, "acts of it", l.Acts(), acts)
	equal(t, "after it", l.Device(), before)
	same(t, "Gen", w.Gen(), gen)
}

// P14.4: a Commit writes the blocks of its group, and flushes the line once.
func TestCommit(t *testing.T) {
	l, d := onDevice(256, -1)
	w := made(t, l, "ab")
	groups := []string{"ab"}
	for _, group := range []string{"", "cd", "\x00", xs(58), xs(59), strings.Repeat("0123456789", 20), "\xff\x00\xfe", "cd"} {
		acts := l.Acts()
		same(t, "Commit", w.Commit(group), api.OK)
		same(t, "acts of Commit", l.Acts()-acts, needs(len(group))+1)
		alike(t, "Fresh", d.Fresh(), nil)
		groups = append(groups, group)
		same(t, "Gen", w.Gen(), 1)
		holds(t, d, 1, groups...)
	}
}

// isDead ends the test unless w answers as a log that is unusable.
func isDead(t *testing.T, w *wal.Wal, l *line.Line, gen uint32) {
	t.Helper()
	acts := l.Acts()
	isReadOnly(t, w)
	for _, n := range []int{0, 5, 3654, 3655, 1000000} {
		same(t, fmt.Sprintf("Checkpoint of %d bytes", n), w.Checkpoint(xs(n)), api.ErrState)
	}
	same(t, "Gen", w.Gen(), gen)
	same(t, "Room", w.Room(), 3654)
	same(t, "Acts", l.Acts(), acts)
}

// P14.4 and P14.5: each act of a Commit and of a Checkpoint may be the one that cuts the line; the log is unusable then.
func TestErrorsOfTheLine(t *testing.T) {
	for _, c := range []struct {
		what string
		call func(w *wal.Wal) api.Errno
		acts int
	}{
		{"Commit", func(w *wal.Wal) api.Errno { return w.Commit("x") }, 2},
		{"Commit", func(w *wal.Wal) api.Errno { return w.Commit("") }, 2},
		{"Commit", func(w *wal.Wal) api.Errno { return w.Commit(xs(200)) }, 5},
		{"Checkpoint", func(w *wal.Wal) api.Errno { return w.Checkpoint("x") }, 69},
		{"Checkpoint", func(w *wal.Wal) api.Errno { return w.Checkpoint(xs(200)) }, 72},
	} {
		for i := range c.acts {
			for choice := range 2 { // 65 has the act that cuts performed
				l, _ := onDevice(256, 65+69+i, choice*65)
				w := made(t, l, "ab")
				same(t, "Acts", l.Acts(), 65+69)
				same(t, c.what, c.call(w), api.ErrDown)
				same(t, "Acts", l.Acts(), 65+69+i+1)
				isDead(t, w, l, 1)
			}
		}
		l, _ := onDevice(256, 65+69+c.acts, 65)
		w := made(t, l, "ab")
		same(t, c.what, c.call(w), api.OK)
		gen := w.Gen()
		l.Blow()
		same(t, "Commit of too many bytes", w.Commit(xs(3655)), api.ErrFull) // the line isn't asked
		same(t, "Checkpoint of too many bytes", w.Checkpoint(xs(3655)), api.ErrFull)
		same(t, "Fits", w.Fits(100), true)
		same(t, c.what, c.call(w), api.ErrDown)
		isDead(t, w, l, gen)
	}
}

// P14.1: each act of Make may be the one that cuts the line.
func TestMakeOfCutLine(t *testing.T) {
	for cut := range 65 + 69 {
		for choice := range 2 {
			l, _ := onDevice(256, cut, choice*65)
			notMade(t, l, "ab", api.ErrDown)
			same(t, "Acts", l.Acts(), cut+1)
		}
	}
	l, _ := onDevice(256, 65+69)
	made(t, l, "ab")
}

// P14.4 and P14.5: a log of Open is writable after a Checkpoint; what is refused up to then doesn't make it unusable.
func TestOpenThenCheckpoint(t *testing.T) {
	l, d := onDevice(256, -1)
	w := made(t, l, "ab")
	same(t, "Commit", w.Commit("cd"), api.OK)
	w = opened(t, l, "ab", "cd")
	acts, before := l.Acts(), d.Copy()
	isReadOnly(t, w)
	same(t, "Checkpoint of too many bytes", w.Checkpoint(xs(3655)), api.ErrFull)
	isReadOnly(t, w)
	same(t, "Gen", w.Gen(), 1)
	same(t, "Acts", l.Acts(), acts)
	equal(t, "nothing was done", d, before)
	same(t, "Checkpoint", w.Checkpoint("ef"), api.OK)
	fits(t, w, 62)
	same(t, "Commit", w.Commit("gh"), api.OK)
	fits(t, w, 61)
	same(t, "Gen", w.Gen(), 2)
	holds(t, d, 2, "ef", "gh")
}

// P14.5: an error of the line makes a log of Open unusable, too.
func TestOpenThenError(t *testing.T) {
	_, d := onDevice(256, -1)
	made(t, line.New(d, -1, nil), "ab")
	for cut := range 69 {
		l := line.New(d, cut, []int{1, 0, 62})
		w := opened(t, l, "ab")
		same(t, "Checkpoint", w.Checkpoint("ef"), api.ErrDown)
		isDead(t, w, l, 1)
		if cut < 67 { // not yet sealed
			holds(t, d, 1, "ab")
		}
	}
}

// P14.5: the regions take turns, and each Checkpoint has the next generation, and all the room.
func TestCheckpoints(t *testing.T) {
	l, d := onDevice(256, -1)
	w := made(t, l, "ab")
	for i := range 20 {
		dump := strings.Repeat(string(rune('a'+i)), i*40)
		acts := l.Acts()
		same(t, "Checkpoint", w.Checkpoint(dump), api.OK)
		same(t, "acts of Checkpoint", l.Acts()-acts, 65+needs(len(dump))+3)
		alike(t, "Fresh", d.Fresh(), nil)
		same(t, "Gen", w.Gen(), uint32(i+2))
		same(t, "Room", w.Room(), 3654)
		fits(t, w, 63-needs(len(dump)))
		for side, gen := range []uint32{uint32(i + 1 + i%2), uint32(i + 2 - i%2)} {
			s, _ := d.Read(64 * side)
			same(t, fmt.Sprint("header of region ", side), s, header(gen))
		}
		holds(t, d, uint32(i+2), dump)
		same(t, "Commit", w.Commit("more"), api.OK)
		holds(t, d, uint32(i+2), dump, "more")
	}
}

// P14.5: a log whose generation is the last one can't start anew, but is as usable as before.
func TestLastGeneration(t *testing.T) {
	for side := range 2 {
		l, d := onDevice(256, -1)
		sealed(t, d, side, math.MaxUint32-1, "old", "more")
		w := opened(t, l, "old", "more")
		same(t, "Gen", w.Gen(), math.MaxUint32-1)
		same(t, "Checkpoint", w.Checkpoint("last"), api.OK)
		same(t, "Gen", w.Gen(), math.MaxUint32)
		acts, before := l.Acts(), d.Copy()
		for range 2 {
			same(t, "Checkpoint of too many bytes", w.Checkpoint(xs(3655)), api.ErrFull)
			same(t, "Checkpoint", w.Checkpoint("x"), api.ErrCount)
			same(t, "Checkpoint", w.Checkpoint(""), api.ErrCount)
		}
		same(t, "Acts", l.Acts(), acts)
		equal(t, "nothing was done", d, before)
		same(t, "Commit", w.Commit("x"), api.OK)
		holds(t, d, math.MaxUint32, "last", "x")
		l.Blow()
		same(t, "Checkpoint", w.Checkpoint("x"), api.ErrCount) // ahead of the error of the line
		same(t, "Commit", w.Commit("y"), api.ErrDown)
		same(t, "Checkpoint", w.Checkpoint("x"), api.ErrState) // ahead of ErrCount
		isDead(t, w, l, math.MaxUint32)
		holds(t, d, math.MaxUint32, "last", "x")
	}
}
