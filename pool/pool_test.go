package pool_test

import (
	"fmt"
	"math"
	"slices"
	"strings"
	"testing"

	"revert/api"
	"revert/device"
	"revert/line"
	"revert/pool"
)

// same ends the test unless got and want are equal.
func same[T comparable](t *testing.T, what string, got, want T) {
	t.Helper()
	if got != want {
		t.Fatalf("%s: got %v, want %v", what, got, want)
	}
}

// alike ends the test unless got and want have the same items, in the same order.
func alike[T comparable](t *testing.T, what string, got, want []T) {
	t.Helper()
	if !slices.Equal(got, want) {
		t.Fatalf("%s: got %v, want %v", what, got, want)
	}
}

// last is the greatest next id: that of a pool that has no id left.
const last = math.MaxUint32

// xs returns n bytes x.
func xs(n int) string { return strings.Repeat("x", n) }

// full returns s, followed by bytes 0 up to those of a block.
func full(s string) string { return s + strings.Repeat("\x00", api.Block-len(s)) }

// onDevice returns a line to a new device, and the device.
func onDevice(n, cut int, choices ...int) (*line.Line, *device.Device) {
	d := device.New(n)
	return line.New(d, cut, choices), d
}

// entry is a chunk with its bytes.
type entry struct {
	pool.Chunk
	data string
}

// of returns an entry.
func of(id uint32, block, refs int, data string) entry {
	return entry{pool.Chunk{ID: id, Block: block, Refs: refs, Size: len(data)}, data}
}

// String shows the bytes in a form that can be printed, whatever they are.
func (c entry) String() string { return fmt.Sprintf("%v %q", c.Chunk, c.data) }

// bare returns the chunks of entries.
func bare(l []entry) []pool.Chunk {
	var got []pool.Chunk
	for _, c := range l {
		got = append(got, c.Chunk)
	}
	return got
}

// made returns a pool of Make.
func made(t *testing.T, l *line.Line) *pool.Pool {
	t.Helper()
	p := pool.Make(l)
	if p == nil {
		t.Fatal("Make: nil")
	}
	return p
}

// loaded returns a pool of Load, whose bytes it puts on the device first.
func loaded(t *testing.T, l *line.Line, next uint32, want ...entry) *pool.Pool {
	t.Helper()
	for _, c := range want {
		same(t, "Write", l.Device().Write(c.Block, c.data), api.OK)
	}
	l.Device().Flush()
	p, e := pool.Load(l, next, bare(want))
	same(t, "error of Load", e, api.OK)
	if p == nil {
		t.Fatal("Load: nil")
	}
	return p
}

// notLoaded ends the test unless Load returns this error, and no pool.
func notLoaded(t *testing.T, l *line.Line, want api.Errno, chunks ...pool.Chunk) {
	t.Helper()
	before := slices.Clone(chunks)
	p, e := pool.Load(l, 1, chunks)
	same(t, fmt.Sprint("error of Load of ", chunks), e, want)
	same(t, "Load", p, nil)
	alike(t, "the argument", chunks, before)
}

// gets ends the test unless Get returns this.
func gets(t *testing.T, p *pool.Pool, want string, ids ...uint32) {
	t.Helper()
	s, e := p.Get(ids, len(want))
	same(t, fmt.Sprint("error of Get of ", ids), e, api.OK)
	same(t, fmt.Sprint("Get of ", ids), s, want)
}

// lacks ends the test unless Get returns this error, and nothing else.
func lacks(t *testing.T, p *pool.Pool, size int, want api.Errno, ids ...uint32) {
	t.Helper()
	s, e := p.Get(ids, size)
	same(t, fmt.Sprint("error of Get of ", ids, " and ", size), e, want)
	same(t, fmt.Sprint("Get of ", ids, " and ", size), s, "")
}

// shows ends the test unless these, ordered by ids, are the chunks of the pool, which has this next id, and so many free blocks.
func shows(t *testing.T, what string, p *pool.Pool, next uint32, free int, want ...entry) {
	t.Helper()
	alike(t, what+": Chunks", p.Chunks(), bare(want))
	same(t, what+": Next", p.Next(), next)
	same(t, what+": Free", p.Free(), free)
	for _, c := range want {
		gets(t, p, c.data, c.ID)
	}
}

// equal ends the test unless both devices have the same bytes, fresh and firm.
func equal(t *testing.T, what string, got, want *device.Device) {
	t.Helper()
	same(t, what+": Blocks", got.Blocks(), want.Blocks())
	alike(t, what+": Fresh", got.Fresh(), want.Fresh())
	for at := range got.Blocks() {
		a, _ := got.Read(at)
		b, _ := want.Read(at)
		c, _ := got.Firm(at)
		d, _ := want.Firm(at)
		if a != b || c != d {
			t.Fatalf("%s: block %d: got %q, firm %q; want %q, firm %q", what, at, a, c, b, d)
		}
	}
}

// The chapter's examples.
func TestExamples(t *testing.T) {
	l, _ := onDevice(256, -1)
	p := made(t, l)
	same(t, "Free", p.Free(), 128)
	q := p.Begin()
	puts(t, q, xs(64)+"y", 1, 2)
	puts(t, q, xs(128), 1, 1)
	alike(t, "Chunks of the plan", q.Chunks(), []pool.Chunk{{ID: 1, Block: 128, Refs: 3, Size: 64}, {ID: 2, Block: 129, Refs: 1, Size: 1}})

	same(t, "Write", q.Write(), api.OK)
	same(t, "Done", q.Done(), api.OK)
	gets(t, p, xs(64)+"y", 1, 2)
	lacks(t, p, 65, api.ErrForm, 1)
	lacks(t, p, 1, api.ErrNone, 3)
	same(t, "Free", p.Free(), 126)
	same(t, "Next", p.Next(), 3)

	q = p.Begin()
	same(t, "Release(2)", q.Release([]uint32{2}), api.OK)
	puts(t, q, "z", 3)
	alike(t, "Chunks of the plan", q.Chunks(), []pool.Chunk{{ID: 2}, {ID: 3, Block: 130, Refs: 1, Size: 1}})

	q = p.Begin()
	same(t, "Release(9)", q.Release([]uint32{9}), api.ErrNone)
	refuses(t, q, "z", api.ErrState)
}

// P17.1: a new pool has the second half of the blocks, whatever stands in them, and does nothing with its line.
func TestMake(t *testing.T) {
	for _, n := range []int{256, 257, 258, 259, 300, 511, 1001, 2047, 2048} {
		l, d := onDevice(n, -1)
		for at := range n {
			d.Write(at, fmt.Sprint("block ", at))
		}
		before := d.Copy()
		p := made(t, l)
		shows(t, fmt.Sprint("of ", n), p, 1, n-n/2)
		lacks(t, p, 1, api.ErrNone, 1)
		same(t, "Acts", l.Acts(), 0)
		equal(t, "nothing was done", d, before)
		q := p.Begin()
		puts(t, q, "ab", 1)
		alike(t, "the first block", q.Chunks(), []pool.Chunk{of(1, n/2, 1, "ab").Chunk})
	}
}

// P17.1: a line that is cut leads to a device, too.
func TestMakeOfCutLine(t *testing.T) {
	l, _ := onDevice(256, -1)
	l.Blow()
	shows(t, "a new one", made(t, l), 1, 128)
	shows(t, "loaded", loaded(t, l, 5), 5, 128)
	notLoaded(t, l, api.ErrDown, of(1, 128, 1, "a").Chunk)
}

// P17.1: each pool is one of its own.
func TestMakeTwice(t *testing.T) {
	l, _ := onDevice(256, -1)
	p, x := made(t, l), made(t, l)
	done(t, p, "ab")
	shows(t, "the one", p, 2, 127, of(1, 128, 1, "ab"))
	shows(t, "the other one", x, 1, 128)
}

// P17.1: no line, and lines that lead to no device; that counts ahead of everything else.
func TestNoLine(t *testing.T) {
	l, _ := onDevice(256, -1)
	other := *l // leads to no device
	for _, none := range []*line.Line{nil, {}, line.New(nil, 0, nil), &other} {
		same(t, "Make", pool.Make(none), nil)
		notLoaded(t, none, api.ErrNil)
		notLoaded(t, none, api.ErrNil, of(1, 128, 1, "a").Chunk)
		notLoaded(t, none, api.ErrNil, of(0, -1, 0, "").Chunk)
	}
}

// P17.1: Load takes the first bytes of each block, in any order of the ids, and does nothing with its line but read.
func TestLoad(t *testing.T) {
	l, d := onDevice(256, 0)
	want := []entry{of(2, 255, 1, "ab"), of(3, 128, 65535, "abc"), of(70000, 190, 2, xs(64)), of(last-1, 129, 7, "a")}
	for _, c := range want {
		d.Write(c.Block, c.data+strings.Repeat("?", 64-len(c.data)))
	}
	before := d.Copy()
	p := reloaded(t, l, 0, want[2], want[0], want[3], want[1])
	shows(t, "loaded", p, last, 124, want...)
	gets(t, p, "ab"+xs(64)+"a"+"abc", 2, 70000, last-1, 3)
	same(t, "Acts", l.Acts(), 0)
	equal(t, "nothing was done", d, before)
}

// reloaded returns a pool of Load, from a device as it is.
func reloaded(t *testing.T, l *line.Line, next uint32, want ...entry) *pool.Pool {
	t.Helper()
	p, e := pool.Load(l, next, bare(want))
	same(t, "error of Load", e, api.OK)
	return p
}

// P17.1: the next id becomes next, unless it is above that already.
func TestLoadNext(t *testing.T) {
	for _, c := range []struct{ next, alone, want uint32 }{{0, 1, 8}, {1, 1, 8}, {2, 2, 8}, {7, 7, 8}, {8, 8, 8}, {9, 9, 9}, {1 << 31, 1 << 31, 1 << 31}, {last, last, last}} {
		l, _ := onDevice(256, -1)
		shows(t, "no chunks", loaded(t, l, c.next), c.alone, 128)
		shows(t, "a chunk", loaded(t, l, c.next, of(7, 128, 1, "a"), of(3, 129, 1, "b")), c.want, 126, of(3, 129, 1, "b"), of(7, 128, 1, "a"))
	}
}

// P17.1: which blocks belong to the pool.
func TestLoadBlocks(t *testing.T) {
	for _, n := range []int{256, 257, 1001, 2048} {
		l, _ := onDevice(n, -1)
		for _, at := range []int{n / 2, n/2 + 1, n - 2, n - 1} {
			c := of(1, at, 1, "ab")
			shows(t, "loaded", loaded(t, l, 1, c), 2, n-n/2-1, c)
		}
		for _, at := range []int{math.MinInt, -1, 0, 1, n / 4, n/2 - 1, n, n + 1, 1 << 40, math.MaxInt} {
			notLoaded(t, l, api.ErrForm, of(1, at, 1, "ab").Chunk)
		}
	}
}

// P17.1: a chunk that is wrong, be it the only one, or the last one of several; and two of them that don't go together.
func TestLoadErrors(t *testing.T) {
	l, d := onDevice(256, -1)
	for at := range 256 {
		d.Write(at, fmt.Sprintf("%02x", at))
	}
	good, two := of(3, 130, 1, "82").Chunk, of(4, 131, 2, "83").Chunk
	reloaded(t, l, 1, entry{good, ""}, entry{two, ""})
	for _, c := range []pool.Chunk{
		{ID: 5, Block: 132, Refs: 1, Size: 0},
		{ID: 5, Block: 132, Refs: 1, Size: -1},
		{ID: 5, Block: 132, Refs: 1, Size: 65},
		{ID: 5, Block: 132, Refs: 1, Size: math.MinInt},
		{ID: 5, Block: 132, Refs: 1, Size: math.MaxInt},
		{ID: 5, Block: 132, Refs: 1, Size: 1<<32 + 1},
		{ID: 5, Block: 132, Refs: 0, Size: 2},
		{ID: 5, Block: 132, Refs: -1, Size: 2},
		{ID: 5, Block: 132, Refs: 65536, Size: 2},
		{ID: 5, Block: 132, Refs: 1<<32 + 1, Size: 2},
		{ID: 0, Block: 132, Refs: 1, Size: 2},
		{ID: last, Block: 132, Refs: 1, Size: 2},
		{ID: 5, Block: 127, Refs: 1, Size: 2},
		{ID: 5, Block: 256, Refs: 1, Size: 2},
		{},
	} {
		notLoaded(t, l, api.ErrForm, c)
		notLoaded(t, l, api.ErrForm, good, two, c)
		notLoaded(t, l, api.ErrForm, c, good, two)
	}
	for _, c := range []pool.Chunk{
		{ID: 5, Block: 130, Refs: 1, Size: 2}, // the block of another one
		{ID: 5, Block: 130, Refs: 1, Size: 1},
		{ID: 3, Block: 132, Refs: 1, Size: 2}, // its id
		good,
	} {
		reloaded(t, l, 1, entry{two, ""}, entry{c, ""})
		notLoaded(t, l, api.ErrForm, good, two, c)
		notLoaded(t, l, api.ErrForm, c, two, good)
	}
}

// P17.1: two chunks with the same bytes; the size counts, and so do bytes 0.
func TestLoadSameBytes(t *testing.T) {
	l, d := onDevice(256, -1)
	d.Write(128, "ab")
	d.Write(129, "ab")
	notLoaded(t, l, api.ErrForm, of(1, 128, 1, "ab").Chunk, of(2, 129, 1, "ab").Chunk)
	notLoaded(t, l, api.ErrForm, of(1, 130, 1, "\x00").Chunk, of(2, 131, 1, "\x00").Chunk)
	want := []entry{of(1, 128, 1, "ab"), of(2, 129, 1, "ab\x00"), of(3, 130, 1, "\x00"), of(4, 131, 1, "\x00\x00")}
	shows(t, "different bytes", reloaded(t, l, 1, want...), 5, 124, want...)
}

// P17.1: the error of the line comes behind what is wrong with size and block, and ahead of what is wrong with id, references and bytes.
func TestLoadOfCutLine(t *testing.T) {
	l, _ := onDevice(256, -1)
	l.Blow()
	for _, c := range []pool.Chunk{{ID: 1, Block: 128, Refs: 1, Size: 0}, {ID: 1, Block: 128, Refs: 1, Size: 65}, {ID: 1, Block: 127, Refs: 1, Size: 1}, {ID: 1, Block: 256, Refs: 1, Size: 1}} {
		notLoaded(t, l, api.ErrForm, c)
	}
	for _, c := range []pool.Chunk{{ID: 1, Block: 128, Refs: 1, Size: 1}, {ID: 0, Block: 128, Refs: 1, Size: 1}, {ID: last, Block: 255, Refs: 1, Size: 64}, {ID: 1, Block: 128, Refs: 0, Size: 1}} {
		notLoaded(t, l, api.ErrDown, c)
		notLoaded(t, l, api.ErrDown, c, c)
		notLoaded(t, l, api.ErrDown, c, pool.Chunk{})
		notLoaded(t, l, api.ErrForm, pool.Chunk{}, c)
	}
}

// P17.2: Get puts the bytes in the order of the ids, each as often as it is named.
func TestGet(t *testing.T) {
	l, d := onDevice(256, -1)
	p := loaded(t, l, 1, of(1, 128, 1, "ab"), of(2, 129, 9, xs(64)), of(5, 130, 1, "\x00c"))
	gets(t, p, "")
	gets(t, p, "ab", 1)
	gets(t, p, "ab\x00c", 1, 5)
	gets(t, p, "\x00cab", 5, 1)
	gets(t, p, "abab"+xs(64)+"ab", 1, 1, 2, 1)
	gets(t, p, strings.Repeat(xs(64), 100), slices.Repeat([]uint32{2}, 100)...)
	l.Blow() // nothing is read from there
	gets(t, p, "ab"+xs(64), 1, 2)
	for at := range 256 {
		d.Write(at, "")
	}
	gets(t, p, "ab"+xs(64), 1, 2)
}

// P17.2: an id that is no chunk's counts ahead of a wrong size.
func TestGetErrors(t *testing.T) {
	l, _ := onDevice(256, -1)
	p := loaded(t, l, 9, of(1, 128, 1, "ab"), of(2, 129, 9, xs(64)))
	for _, size := range []int{math.MinInt, -1, 0, 1, 3, 65, 66, 1 << 32, 1<<32 + 2, math.MaxInt} {
		lacks(t, p, size, api.ErrForm, 1)
	}
	for _, size := range []int{-1, 1, 64} {
		lacks(t, p, size, api.ErrForm)
	}
	lacks(t, p, 65, api.ErrForm, 1, 2)
	for _, id := range []uint32{0, 3, 8, 9, 257, 65537, 1<<31 + 1, last} {
		for _, size := range []int{-1, 0, 2, 66} {
			lacks(t, p, size, api.ErrNone, id)
			lacks(t, p, size, api.ErrNone, 1, id)
			lacks(t, p, size, api.ErrNone, id, 1)
			lacks(t, p, size, api.ErrNone, 1, 2, id)
		}
	}
	shows(t, "as before", p, 9, 126, of(1, 128, 1, "ab"), of(2, 129, 9, xs(64)))
}

// answersNil ends the test unless p answers as a pool that there isn't.
func answersNil(t *testing.T, p *pool.Pool) {
	t.Helper()
	for _, size := range []int{-1, 0, 1, 2} {
		lacks(t, p, size, api.ErrNil)
		lacks(t, p, size, api.ErrNil, 1)
		lacks(t, p, size, api.ErrNil, 0, last)
	}
	same(t, "Free", p.Free(), 0)
	same(t, "number of Chunks", len(p.Chunks()), 0)
	same(t, "Next", p.Next(), 0)
	same(t, "Begin", p.Begin(), nil)
}

// P17.2: nil, and pools that neither Make nor Load returned.
func TestNotMade(t *testing.T) {
	answersNil(t, nil)
	answersNil(t, &pool.Pool{})
	l, _ := onDevice(256, -1)
	want := of(1, 128, 1, "ab")
	for _, p := range []*pool.Pool{loaded(t, l, 1, want), done(t, made(t, l), "ab")} {
		other := *p
		answersNil(t, &other)
		shows(t, "the pool", p, 2, 127, want)
	}
}

// P17.2: results are new memory, and arguments are left alone.
func TestNewMemory(t *testing.T) {
	l, _ := onDevice(256, -1)
	want := []entry{of(1, 128, 1, "ab"), of(2, 129, 2, "cd")}
	chunks := bare(want)
	loaded(t, l, 1, want...)
	p, e := pool.Load(l, 1, chunks)
	same(t, "error of Load", e, api.OK)
	clear(chunks)
	clear(p.Chunks())
	shows(t, "the pool", p, 3, 126, want...)
	q := p.Begin()
	list := []uint32{1, 2, 2}
	same(t, "Hold", q.Hold(list), api.OK)
	alike(t, "the argument", list, []uint32{1, 2, 2})
	same(t, "Release", q.Release(list[1:]), api.OK)
	alike(t, "the argument", list, []uint32{1, 2, 2})
	clear(list)
	got := puts(t, q, "abef", 3)
	clear(got)
	clear(q.Chunks())
	alike(t, "Chunks of the plan", q.Chunks(), []pool.Chunk{of(1, 128, 2, "ab").Chunk, of(3, 130, 1, "abef").Chunk})
}

// P17.2: Free goes down with each chunk, and not with references.
func TestFree(t *testing.T) {
	l, _ := onDevice(256, -1)
	p := made(t, l)
	for i := range 128 {
		done(t, p, fmt.Sprint("chunk ", i))
		done(t, p, fmt.Sprint("chunk ", i/2))
		same(t, "Free", p.Free(), 127-i)
		same(t, "so many", len(p.Chunks()), i+1)
	}
}
