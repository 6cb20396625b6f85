package pool_test

import (
	"fmt"
	"slices"
	"strings"
	"testing"

	"revert/api"
	"revert/device"
	"revert/line"
	"revert/pool"
)

// puts ends the test unless Put returns these ids, which it returns, too.
func puts(t *testing.T, q *pool.Plan, data string, want ...uint32) []uint32 {
	t.Helper()
	ids, e := q.Put(data)
	same(t, fmt.Sprintf("error of Put of %q", data), e, api.OK)
	alike(t, fmt.Sprintf("Put of %q", data), ids, want)
	return ids
}

// refuses ends the test unless Put returns this error, and no ids.
func refuses(t *testing.T, q *pool.Plan, data string, want api.Errno) {
	t.Helper()
	ids, e := q.Put(data)
	same(t, fmt.Sprintf("error of Put of %q", data), e, want)
	same(t, "number of ids", len(ids), 0)
}

// plans ends the test unless these are the changes of the plan, which has this next id.
func plans(t *testing.T, what string, q *pool.Plan, next uint32, want ...pool.Chunk) {
	t.Helper()
	alike(t, what+": Chunks of the plan", q.Chunks(), want)
	same(t, what+": Next of the plan", q.Next(), next)
}

// holds ends the test unless the ids can be held.
func holds(t *testing.T, q *pool.Plan, ids ...uint32) {
	t.Helper()
	same(t, fmt.Sprint("Hold of ", ids), q.Hold(ids), api.OK)
}

// releases ends the test unless the ids can be released.
func releases(t *testing.T, q *pool.Plan, ids ...uint32) {
	t.Helper()
	same(t, fmt.Sprint("Release of ", ids), q.Release(ids), api.OK)
}

// finish writes a plan, and is done with it.
func finish(t *testing.T, q *pool.Plan) {
	t.Helper()
	same(t, "Write", q.Write(), api.OK)
	same(t, "Done", q.Done(), api.OK)
}

// done puts some data into the pool, which it returns.
func done(t *testing.T, p *pool.Pool, data ...string) *pool.Pool {
	t.Helper()
	q := p.Begin()
	for _, s := range data {
		_, e := q.Put(s)
		same(t, fmt.Sprintf("error of Put of %q", s), e, api.OK)
	}
	finish(t, q)
	return p
}

// isOver ends the test unless each method of the plan with an error returns want, and the others nothing.
func isOver(t *testing.T, q *pool.Plan, want api.Errno) {
	t.Helper()
	for range 2 {
		for _, s := range []string{"", "a", "ab", xs(65), xs(100000)} {
			refuses(t, q, s, want)
		}
		for _, ids := range [][]uint32{nil, {}, {1}, {0}, {1, 2, last}} {
			same(t, "Hold", q.Hold(ids), want)
			same(t, "Release", q.Release(ids), want)
		}
		plans(t, "over", q, 0)
		same(t, "Write", q.Write(), want)
		same(t, "Done", q.Done(), want)
	}
}

// P17.3: data become chunks of 64 bytes, and a last one with what is left.
func TestPutSizes(t *testing.T) {
	for n := range 300 {
		data := make([]byte, n)
		for i := range data {
			data[i] = byte(i / 64)
		}
		l, _ := onDevice(256, -1)
		p := made(t, l)
		q := p.Begin()
		var ids []uint32
		var want []entry
		for i := 0; i*64 < n; i++ {
			ids = append(ids, uint32(i+1))
			want = append(want, of(uint32(i+1), 128+i, 1, string(data[i*64:min(n, i*64+64)])))
		}
		puts(t, q, string(data), ids...)
		plans(t, "put", q, uint32(len(ids)+1), bare(want)...)
		finish(t, q)
		shows(t, "done", p, uint32(len(ids)+1), 128-len(ids), want...)
		gets(t, p, string(data), ids...)
	}
}

// P17.3: more than a file may have, more than there are blocks for, as long as the chunks are there.
func TestPutMuch(t *testing.T) {
	l, _ := onDevice(256, -1)
	p := made(t, l)
	q := p.Begin()
	puts(t, q, xs(64*1000)+"y", append(slices.Repeat([]uint32{1}, 1000), 2)...)
	finish(t, q)
	shows(t, "much", p, 3, 126, of(1, 128, 1000, xs(64)), of(2, 129, 1, "y"))
}

// P17.3: a chunk that is there is held, be it the pool's or the plan's own; one with other bytes, or fewer, is another one.
func TestPutAgain(t *testing.T) {
	l, _ := onDevice(256, -1)
	p := done(t, made(t, l), "ab", "cd")
	q := p.Begin()
	puts(t, q, "ab", 1)
	puts(t, q, "abc", 3)
	puts(t, q, "abc", 3)
	puts(t, q, "a", 4)
	puts(t, q, "ab\x00", 5)
	puts(t, q, "ab", 1)
	want := []pool.Chunk{of(1, 128, 3, "ab").Chunk, of(3, 130, 2, "abc").Chunk, of(4, 131, 1, "a").Chunk, of(5, 132, 1, "ab\x00").Chunk}
	plans(t, "held", q, 6, want...)
	shows(t, "the pool, meanwhile", p, 3, 126, of(1, 128, 1, "ab"), of(2, 129, 1, "cd"))
	finish(t, q)
	shows(t, "the pool", p, 6, 123, of(1, 128, 3, "ab"), of(2, 129, 1, "cd"), of(3, 130, 2, "abc"), of(4, 131, 1, "a"), of(5, 132, 1, "ab\x00"))
}

// P17.3: new chunks take the least free blocks, also between those that are used.
func TestPutLeastBlock(t *testing.T) {
	l, _ := onDevice(256, -1)
	p := loaded(t, l, 1, of(1, 129, 1, "a"), of(2, 131, 1, "b"), of(3, 132, 1, "c"), of(4, 255, 1, "d"))
	q := p.Begin()
	puts(t, q, "e", 5)
	puts(t, q, "f", 6)
	puts(t, q, "g", 7)
	puts(t, q, "h", 8)
	plans(t, "least", q, 9, of(5, 128, 1, "e").Chunk, of(6, 130, 1, "f").Chunk, of(7, 133, 1, "g").Chunk, of(8, 134, 1, "h").Chunk)
}

// P17.3: a block whose chunk the plan released isn't free for it, not even if the plan took that itself; once it is done, it is.
func TestReleasedBlocks(t *testing.T) {
	l, _ := onDevice(256, -1)
	p := done(t, made(t, l), "a", "b", "c")
	q := p.Begin()
	releases(t, q, 1)
	puts(t, q, "d", 4) // in 131
	releases(t, q, 4)
	puts(t, q, "e", 5)
	releases(t, q, 2)
	puts(t, q, "b", 6) // another chunk than the one that was removed
	plans(t, "released", q, 7, pool.Chunk{ID: 1}, pool.Chunk{ID: 2}, of(5, 132, 1, "e").Chunk, of(6, 133, 1, "b").Chunk)
	finish(t, q)
	shows(t, "done", p, 7, 125, of(3, 130, 1, "c"), of(5, 132, 1, "e"), of(6, 133, 1, "b"))
	lacks(t, p, 1, api.ErrNone, 1)
	lacks(t, p, 1, api.ErrNone, 2)
	lacks(t, p, 1, api.ErrNone, 4)
	q = p.Begin()
	for i, at := range []int{128, 129, 131, 134} {
		puts(t, q, fmt.Sprint("more ", i), uint32(7+i))
		same(t, "the block", q.Chunks()[i].Block, at)
	}
}

// P17.3: no block is left; chunks that are there can be held all the same.
func TestPutFull(t *testing.T) {
	for _, n := range []int{256, 257} {
		l, _ := onDevice(n, -1)
		p := made(t, l)
		room := n - n/2
		q := p.Begin()
		for i := range room {
			puts(t, q, fmt.Sprint("chunk ", i), uint32(i+1))
		}
		puts(t, q, "chunk 7", 8)
		same(t, "so many", len(q.Chunks()), room)
		finish(t, q)
		same(t, "Free", p.Free(), 0)

		refuses(t, p.Begin(), "new", api.ErrFull)
		refuses(t, p.Begin(), xs(65), api.ErrFull)
		q = p.Begin()
		puts(t, q, "")
		puts(t, q, "chunk 9", 10)
		releases(t, q, 3) // not free before it is done
		refuses(t, q, "new", api.ErrFull)
		isOver(t, q, api.ErrState)
		same(t, "Free", p.Free(), 0)
		gets(t, p, "chunk 2", 3)

		q = p.Begin()
		releases(t, q, 3)
		finish(t, q)
		same(t, "Free", p.Free(), 1)
		q = p.Begin()
		puts(t, q, "new", uint32(room+1))
		plans(t, "the last block", q, uint32(room+2), of(uint32(room+1), n/2+2, 1, "new").Chunk)
		refuses(t, q, "newer", api.ErrFull)
	}
}

// P17.3: one block is left for data of two new chunks.
func TestPutPart(t *testing.T) {
	l, _ := onDevice(256, -1)
	p := made(t, l)
	for i := range 127 {
		done(t, p, fmt.Sprint("chunk ", i))
	}
	q := p.Begin()
	refuses(t, q, xs(65), api.ErrFull)
	isOver(t, q, api.ErrState)
	same(t, "Free", p.Free(), 1)
	same(t, "Next", p.Next(), 128)
	q = p.Begin()
	puts(t, q, xs(128), 128, 128)
	finish(t, q)
	same(t, "Free", p.Free(), 0)
}

// P17.3: no id is left; that comes behind the block.
func TestPutNoId(t *testing.T) {
	l, _ := onDevice(256, -1)
	p := loaded(t, l, last-1, of(1, 128, 1, "a"))
	q := p.Begin()
	puts(t, q, "b", last-1)
	puts(t, q, "a", 1)
	puts(t, q, "b", last-1)
	plans(t, "the last id", q, last, of(1, 128, 2, "a").Chunk, of(last-1, 129, 2, "b").Chunk)
	refuses(t, q, "c", api.ErrCount)
	isOver(t, q, api.ErrState)
	shows(t, "the pool", p, last-1, 127, of(1, 128, 1, "a"))

	var all []entry
	for i := range 128 {
		all = append(all, of(uint32(i+1), 128+i, 1, fmt.Sprint("chunk ", i)))
	}
	p = loaded(t, l, last, all...)
	refuses(t, p.Begin(), "c", api.ErrFull)
	p = loaded(t, l, last, all[1:]...)
	refuses(t, p.Begin(), "c", api.ErrCount)
}

// P17.3: a chunk has at most 65535 references.
func TestMostReferences(t *testing.T) {
	l, _ := onDevice(256, -1)
	most := of(1, 128, 65535, "a")
	p := loaded(t, l, 1, most, of(2, 129, 65534, xs(64)))
	q := p.Begin()
	refuses(t, q, "a", api.ErrCount)
	isOver(t, q, api.ErrState)
	q = p.Begin()
	same(t, "Hold", q.Hold([]uint32{1}), api.ErrCount)
	isOver(t, q, api.ErrState)
	refuses(t, p.Begin(), xs(128), api.ErrCount)
	q = p.Begin()
	puts(t, q, xs(64), 2)
	refuses(t, q, xs(64), api.ErrCount)
	q = p.Begin()
	releases(t, q, 1, 1)
	puts(t, q, "a", 1)
	holds(t, q, 1)
	same(t, "Hold", q.Hold([]uint32{1}), api.ErrCount)
	shows(t, "the pool", p, 3, 126, most, of(2, 129, 65534, xs(64)))
}

// P17.3: each id of the list counts, as often as it is named.
func TestHoldRelease(t *testing.T) {
	l, _ := onDevice(256, -1)
	p := done(t, made(t, l), "a", "b", "c")
	q := p.Begin()
	holds(t, q)
	releases(t, q)
	plans(t, "nothing", q, 4)
	holds(t, q, 1, 3, 1)
	plans(t, "held", q, 4, of(1, 128, 3, "a").Chunk, of(3, 130, 2, "c").Chunk)
	releases(t, q, 1, 2, 1)
	plans(t, "released", q, 4, pool.Chunk{ID: 2}, of(3, 130, 2, "c").Chunk)
	releases(t, q, 3)
	plans(t, "back again", q, 4, pool.Chunk{ID: 2})
	releases(t, q, 1, 3)
	plans(t, "all of them", q, 4, pool.Chunk{ID: 1}, pool.Chunk{ID: 2}, pool.Chunk{ID: 3})
	shows(t, "the pool", p, 4, 125, of(1, 128, 1, "a"), of(2, 129, 1, "b"), of(3, 130, 1, "c"))
	finish(t, q)
	shows(t, "done", p, 4, 128)
	puts(t, p.Begin(), "a", 4)
}

// P17.3: what the plan added itself is held and released like the rest.
func TestHoldReleaseNew(t *testing.T) {
	l, _ := onDevice(256, -1)
	p := made(t, l)
	q := p.Begin()
	puts(t, q, "a", 1)
	holds(t, q, 1, 1)
	plans(t, "held", q, 2, of(1, 128, 3, "a").Chunk)
	releases(t, q, 1, 1, 1)
	plans(t, "released", q, 2)
	same(t, "Hold", q.Hold([]uint32{1}), api.ErrNone)
	isOver(t, q, api.ErrState)
	shows(t, "the pool", p, 1, 128)
}

// P17.3: the first error, in order, is returned, and breaks the plan.
func TestHoldReleaseErrors(t *testing.T) {
	l, _ := onDevice(256, -1)
	want := []entry{of(1, 128, 1, "a"), of(2, 129, 65535, "b"), of(4, 130, 1, "c")}
	p := loaded(t, l, 6, want...)
	for _, c := range []struct {
		ids           []uint32
		hold, release api.Errno
	}{
		{[]uint32{0}, api.ErrNone, api.ErrNone},
		{[]uint32{3}, api.ErrNone, api.ErrNone},
		{[]uint32{5}, api.ErrNone, api.ErrNone},
		{[]uint32{6}, api.ErrNone, api.ErrNone},
		{[]uint32{257}, api.ErrNone, api.ErrNone},
		{[]uint32{last}, api.ErrNone, api.ErrNone},
		{[]uint32{1, 3}, api.ErrNone, api.ErrNone},
		{[]uint32{3, 1}, api.ErrNone, api.ErrNone},
		{[]uint32{2, 3}, api.ErrCount, api.ErrNone},
		{[]uint32{3, 2}, api.ErrNone, api.ErrNone},
		{[]uint32{1, 1}, api.OK, api.ErrNone},
		{[]uint32{1, 4, 1}, api.OK, api.ErrNone},
		{[]uint32{4, 2, 1}, api.ErrCount, api.OK},
	} {
		for _, call := range []struct {
			of   func(q *pool.Plan, ids []uint32) api.Errno
			want api.Errno
		}{{(*pool.Plan).Hold, c.hold}, {(*pool.Plan).Release, c.release}} {
			q := p.Begin()
			same(t, fmt.Sprint("call of ", c.ids), call.of(q, c.ids), call.want)
			if call.want == api.OK {
				holds(t, q)
				continue
			}
			isOver(t, q, api.ErrState)
			shows(t, "the pool", p, 6, 125, want...)
		}
	}
	same(t, "Acts", l.Acts(), 0)
}

// P17.3: nil, and plans that Begin did not return; that is no reason for a plan to be broken.
func TestPlanNotMade(t *testing.T) {
	isOver(t, nil, api.ErrNil)
	isOver(t, &pool.Plan{}, api.ErrNil)
	l, _ := onDevice(256, -1)
	p := made(t, l)
	q := p.Begin()
	puts(t, q, "a", 1)
	other := *q
	isOver(t, &other, api.ErrNil)
	puts(t, q, "b", 2)
	finish(t, q)
	shows(t, "the pool", p, 3, 126, of(1, 128, 1, "a"), of(2, 129, 1, "b"))
	other = *q
	isOver(t, &other, api.ErrNil)
}

// P17.3: after Done, the plan is over.
func TestOverAfterDone(t *testing.T) {
	l, _ := onDevice(256, -1)
	p := made(t, l)
	for range 2 {
		q := p.Begin()
		finish(t, q)
		isOver(t, q, api.ErrState)
	}
	shows(t, "nothing was changed", p, 1, 128)
	q := p.Begin()
	puts(t, q, "a", 1)
	finish(t, q)
	acts := l.Acts()
	isOver(t, q, api.ErrState)
	same(t, "Acts", l.Acts(), acts)
	shows(t, "the pool", p, 2, 127, of(1, 128, 1, "a"))
}

// P17.3: after an error of the line, the plan is broken, and the pool as it was.
func TestBrokenByLine(t *testing.T) {
	for cut := range 3 {
		l, _ := onDevice(256, cut, 65)
		p := made(t, l)
		q := p.Begin()
		puts(t, q, xs(64)+"y", 1, 2)
		same(t, "Write", q.Write(), api.ErrDown)
		isOver(t, q, api.ErrState)
		shows(t, "the pool", p, 1, 128)
		same(t, "Acts", l.Acts(), cut+1)
		q = p.Begin()
		same(t, "Write", q.Write(), api.ErrDown) // the Flush
		isOver(t, q, api.ErrState)
	}
}

// P17.4: Chunks tells of those that are new, removed, or have another number of references, and of no others.
func TestPlanChunks(t *testing.T) {
	l, _ := onDevice(256, -1)
	p := done(t, made(t, l), "a", "b", "b", "c", "d", "d", "e")
	q := p.Begin()
	puts(t, q, "f", 6)
	releases(t, q, 2, 3, 1)
	holds(t, q, 5)
	puts(t, q, "a", 7) // not the chunk that was removed
	want := []pool.Chunk{{ID: 1}, of(2, 129, 1, "b").Chunk, {ID: 3}, of(5, 132, 2, "e").Chunk, of(6, 133, 1, "f").Chunk, of(7, 134, 1, "a").Chunk}
	for range 3 { // it changes nothing
		plans(t, "changes", q, 8, want...)
	}
	same(t, "Write", q.Write(), api.OK)
	plans(t, "after Write", q, 8, want...)
	same(t, "Done", q.Done(), api.OK)
	plans(t, "after Done", q, 0)
	plans(t, "the next plan", p.Begin(), 8)
}

// P17.4: Next goes up with each new chunk, and never down.
func TestPlanNext(t *testing.T) {
	l, _ := onDevice(256, -1)
	p := made(t, l)
	for i := range 200 {
		q := p.Begin()
		same(t, "Next of the plan", q.Next(), uint32(i+1))
		puts(t, q, "a", uint32(i+1))
		same(t, "Next of the plan", q.Next(), uint32(i+2))
		same(t, "Next of the pool", p.Next(), uint32(i+1))
		releases(t, q, uint32(i+1))
		same(t, "Next of the plan", q.Next(), uint32(i+2))
		same(t, "Done", q.Done(), api.OK)
		same(t, "Next of the pool", p.Next(), uint32(i+2))
	}
}

// P17.4: Write writes what is new, by ids, each with bytes 0 behind it, and flushes; nothing else.
func TestWrite(t *testing.T) {
	start := func(cut int, choices ...int) (*line.Line, *device.Device, *pool.Plan) {
		d := device.New(256)
		p := loaded(t, line.New(d, -1, nil), 9, of(3, 129, 1, "a"), of(5, 128, 2, "b"), of(8, 131, 1, "c"))
		for at := range 256 {
			if s, _ := d.Read(at); s == full("") {
				d.Write(at, xs(64))
			}
		}
		d.Flush()
		l := line.New(d, cut, choices)
		p, e := pool.Load(l, 9, p.Chunks())
		same(t, "error of Load", e, api.OK)
		q := p.Begin()
		puts(t, q, strings.Repeat("y", 64)+"z", 9, 10) // in 130, 132
		puts(t, q, "b", 5)
		holds(t, q, 3)
		puts(t, q, "no more", 11) // in 133
		releases(t, q, 8, 11)
		puts(t, q, "c", 12) // in 134
		return l, d, q
	}
	acts := []struct {
		at int
		s  string
	}{{130, strings.Repeat("y", 64)}, {132, "z"}, {134, "c"}}
	for cut := range 5 {
		for _, choices := range [][]int{nil, {0}, {1}, {65}, {64, 1, 33}, {33, 64, 2}} {
			l, d, q := start(cut, choices...)
			want := d.Copy()
			k := line.New(want, cut, choices)
			e := q.Write()
			for _, a := range acts {
				k.Write(a.at, a.s)
			}
			same(t, "Write", e, k.Flush())
			same(t, "Acts", l.Acts(), k.Acts())
			equal(t, fmt.Sprint("cut by ", cut), d, want)
		}
	}
}

// P17.4: a plan without new chunks is flushed all the same, and so is what else is fresh.
func TestWriteNothing(t *testing.T) {
	l, d := onDevice(256, -1)
	p := done(t, made(t, l), "a", "b")
	acts := l.Acts()
	d.Write(7, "fresh")
	q := p.Begin()
	releases(t, q, 1)
	holds(t, q, 2)
	before := d.Copy()
	before.Flush()
	same(t, "Write", q.Write(), api.OK)
	same(t, "Acts", l.Acts(), acts+1)
	equal(t, "flushed", d, before)
}

// P17.4: a plan goes on after its Write; another one writes everything again.
func TestWriteTwice(t *testing.T) {
	l, d := onDevice(256, -1)
	p := made(t, l)
	q := p.Begin()
	puts(t, q, "a", 1)
	same(t, "Write", q.Write(), api.OK)
	same(t, "Acts", l.Acts(), 2)
	puts(t, q, "b", 2)
	same(t, "Write", q.Write(), api.OK)
	same(t, "Acts", l.Acts(), 5)
	same(t, "Done", q.Done(), api.OK)
	same(t, "Acts", l.Acts(), 5)
	shows(t, "the pool", p, 3, 126, of(1, 128, 1, "a"), of(2, 129, 1, "b"))
	for at, s := range map[int]string{128: "a", 129: "b", 130: ""} {
		firm, _ := d.Firm(at)
		same(t, "firm bytes", firm, full(s))
	}
}

// P17.4: Done is no matter of the line.
func TestDoneOfCutLine(t *testing.T) {
	l, _ := onDevice(256, -1)
	p := made(t, l)
	q := p.Begin()
	puts(t, q, "a", 1)
	same(t, "Write", q.Write(), api.OK)
	l.Blow()
	same(t, "Done", q.Done(), api.OK)
	shows(t, "the pool", p, 2, 127, of(1, 128, 1, "a"))
	q = p.Begin()
	puts(t, q, "b", 2)
	releases(t, q, 1)
	plans(t, "the line isn't asked", q, 3, pool.Chunk{ID: 1}, of(2, 129, 1, "b").Chunk)
}

// P17.7: plans that are not done leave the pool alone, written or not; the next plan has the same blocks and ids.
func TestDropped(t *testing.T) {
	l, _ := onDevice(256, -1)
	want := []entry{of(1, 128, 1, "a"), of(2, 129, 2, "b")}
	p := done(t, made(t, l), "a", "b", "b")
	for i := range 6 {
		q := p.Begin()
		puts(t, q, fmt.Sprint("new ", i), 3)
		releases(t, q, 1, 2)
		puts(t, q, "a", 4)
		if i%2 == 0 {
			same(t, "Write", q.Write(), api.OK)
		}
		plans(t, "dropped", q, 5, pool.Chunk{ID: 1}, of(2, 129, 1, "b").Chunk, of(3, 130, 1, "new 0").Chunk, of(4, 131, 1, "a").Chunk)
		shows(t, "the pool", p, 3, 126, want...)
		shows(t, "loaded", reloaded(t, line.New(l.Device(), -1, nil), 3, want...), 3, 126, want...)
	}
	done(t, p, "c")
	shows(t, "the pool", p, 4, 125, append(want, of(3, 130, 1, "c"))...)
}

// P17.7: of two plans at the same time, one is done, and the other one dropped.
func TestTwoPlans(t *testing.T) {
	l, _ := onDevice(256, -1)
	p := done(t, made(t, l), "a")
	q, x := p.Begin(), p.Begin()
	puts(t, q, "b", 2)
	puts(t, x, "c", 2)
	releases(t, x, 1)
	same(t, "Hold", q.Hold([]uint32{1, 2}), api.OK)
	plans(t, "the one", q, 3, of(1, 128, 2, "a").Chunk, of(2, 129, 2, "b").Chunk)
	plans(t, "the other one", x, 3, pool.Chunk{ID: 1}, of(2, 129, 1, "c").Chunk)
	same(t, "Release", x.Release([]uint32{7}), api.ErrNone)
	isOver(t, x, api.ErrState)
	finish(t, q)
	want := []entry{of(1, 128, 2, "a"), of(2, 129, 2, "b")}
	shows(t, "the pool", p, 3, 126, want...)
	shows(t, "loaded", reloaded(t, line.New(l.Device(), -1, nil), 3, want...), 3, 126, want...)
}
