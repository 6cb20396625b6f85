package pool_test

import (
	"cmp"
	"fmt"
	"math/rand"
	"slices"
	"strings"
	"testing"

	"revert/api"
	"revert/device"
	"revert/line"
	"revert/pool"
)

// table is the chunks of a pool, ordered by ids, and its next id, word by word as the chapter defines them.
type table struct {
	list []entry
	next uint32
}

// copy returns a table of its own.
func (m table) copy() table { return table{slices.Clone(m.list), m.next} }

// place returns where the chunk with this id is, or -1.
func (m *table) place(id uint32) int {
	return slices.IndexFunc(m.list, func(c entry) bool { return c.ID == id })
}

// hold is dedup's Hold.
func (m *table) hold(id uint32) api.Errno {
	i := m.place(id)
	if i < 0 {
		return api.ErrNone
	}
	if m.list[i].Refs == 65535 {
		return api.ErrCount
	}
	m.list[i].Refs++
	return api.OK
}

// release is dedup's Release.
func (m *table) release(id uint32) api.Errno {
	i := m.place(id)
	if i < 0 {
		return api.ErrNone
	}
	m.list[i].Refs--
	if m.list[i].Refs == 0 {
		m.list = slices.Delete(m.list, i, i+1)
	}
	return api.OK
}

// model is a pool with a plan, and the device on which it works.
type model struct {
	l    *line.Line
	has  table
	plan table
	left []int // the blocks that the plan may still take, ascending
	over bool  // whether the plan is broken, or done
}

// begin starts a plan.
func (m *model) begin() {
	m.plan, m.left, m.over = m.has.copy(), nil, false
	n := m.l.Device().Blocks()
	for at := n / 2; at < n; at++ {
		if !slices.ContainsFunc(m.has.list, func(c entry) bool { return c.Block == at }) {
			m.left = append(m.left, at)
		}
	}
}

// free returns the number of free blocks of the pool.
func (m *model) free() int {
	n := m.l.Device().Blocks()
	return n - n/2 - len(m.has.list)
}

// act performs a step of the plan, unless that is over; an error breaks it.
func (m *model) act(do func() api.Errno) api.Errno {
	if m.over {
		return api.ErrState
	}
	e := do()
	m.over = e != api.OK
	return e
}

// put is Put, word by word.
func (m *model) put(data string) ([]uint32, api.Errno) {
	var ids []uint32
	e := m.act(func() api.Errno {
		for len(data) > 0 {
			piece := data[:min(64, len(data))]
			data = data[len(piece):]
			i := slices.IndexFunc(m.plan.list, func(c entry) bool { return c.data == piece })
			if i >= 0 {
				if e := m.plan.hold(m.plan.list[i].ID); e != api.OK {
					return e
				}
				ids = append(ids, m.plan.list[i].ID)
				continue
			}
			if len(m.left) == 0 {
				return api.ErrFull
			}
			if m.plan.next == last {
				return api.ErrCount
			}
			ids = append(ids, m.plan.next)
			m.plan.list = append(m.plan.list, of(m.plan.next, m.left[0], 1, piece))
			m.plan.next++
			m.left = m.left[1:]
		}
		return api.OK
	})
	if e != api.OK {
		return nil, e
	}
	return ids, api.OK
}

// all performs a step for each id, up to the first error.
func (m *model) all(ids []uint32, step func(id uint32) api.Errno) api.Errno {
	return m.act(func() api.Errno {
		for _, id := range ids {
			if e := step(id); e != api.OK {
				return e
			}
		}
		return api.OK
	})
}

// write is Write, word by word.
func (m *model) write() api.Errno {
	return m.act(func() api.Errno {
		for _, c := range m.plan.list {
			if m.has.place(c.ID) >= 0 {
				continue
			}
			if e := m.l.Write(c.Block, c.data); e != api.OK {
				return e
			}
		}
		return m.l.Flush()
	})
}

// done is Done, word by word.
func (m *model) done() api.Errno {
	e := m.act(func() api.Errno {
		m.has = m.plan.copy()
		return api.OK
	})
	m.over = true
	return e
}

// changes is what Chunks of the plan returns, word by word, and what Next does.
func (m *model) changes() ([]pool.Chunk, uint32) {
	if m.over {
		return nil, 0
	}
	var l []pool.Chunk
	for _, c := range m.plan.list {
		if i := m.has.place(c.ID); i < 0 || m.has.list[i].Refs != c.Refs {
			l = append(l, c.Chunk)
		}
	}
	for _, c := range m.has.list {
		if m.plan.place(c.ID) < 0 {
			l = append(l, pool.Chunk{ID: c.ID})
		}
	}
	slices.SortFunc(l, func(a, b pool.Chunk) int { return cmp.Compare(a.ID, b.ID) })
	return l, m.plan.next
}

// somePiece returns 64 bytes, of which there are few kinds, so that they meet again.
func somePiece(g *rand.Rand) string {
	b := []byte(strings.Repeat(string(rune('a'+g.Intn(26))), 64))
	if g.Intn(2) == 0 {
		b = []byte(xs(64))
		b[[]int{0, 31, 63}[g.Intn(3)]] = byte(g.Intn(3))
	}
	return string(b)
}

// someData returns bytes of fewer than most chunks, and some more.
func someData(g *rand.Rand, most int) string {
	var b strings.Builder
	for range g.Intn(most) {
		b.WriteString(somePiece(g))
	}
	b.WriteString(somePiece(g)[:[]int{0, 1, 2, 63, g.Intn(60)}[g.Intn(5)]])
	return b.String()
}

// someIds returns up to 4 ids, mostly those of chunks of the plan.
func someIds(g *rand.Rand, m *model) []uint32 {
	var l []uint32
	for range g.Intn(5) {
		id := []uint32{0, 1, m.plan.next, m.plan.next - 1, last}[g.Intn(5)]
		if n := len(m.plan.list); n > 0 && g.Intn(30) > 0 {
			id = m.plan.list[g.Intn(n)].ID
		}
		l = append(l, id)
	}
	return l
}

// step makes one call of the plan and of the model, and holds the answers against each other.
func step(t *testing.T, g *rand.Rand, q *pool.Plan, m *model) {
	t.Helper()
	switch g.Intn(8) {
	case 0, 1, 2:
		data := someData(g, 4)
		ids, e := q.Put(data)
		wantIds, want := m.put(data)
		same(t, fmt.Sprintf("error of Put of %q", data), e, want)
		alike(t, fmt.Sprintf("Put of %q", data), ids, wantIds)
	case 3:
		ids := someIds(g, m)
		same(t, fmt.Sprint("Hold of ", ids), q.Hold(ids), m.all(ids, m.plan.hold))
	case 4, 5, 6:
		ids := someIds(g, m)
		same(t, fmt.Sprint("Release of ", ids), q.Release(ids), m.all(ids, m.plan.release))
	default:
		l, next := m.changes()
		plans(t, "in between", q, next, l...)
	}
}

// agree ends the test unless the pool is what the model is.
func agree(t *testing.T, what string, p *pool.Pool, m *model) {
	t.Helper()
	shows(t, what, p, m.has.next, m.free(), m.has.list...)
	lacks(t, p, 1, api.ErrNone, m.has.next)
}

// live makes some calls of a new plan, and ends it: it is dropped, or written and done.
func live(t *testing.T, g *rand.Rand, p *pool.Pool, m *model, calls int) {
	t.Helper()
	q := p.Begin()
	m.begin()
	for range calls {
		step(t, g, q, m)
	}
	agree(t, "ahead of Write", p, m)
	if g.Intn(4) > 0 {
		same(t, "Write", q.Write(), m.write())
		agree(t, "ahead of Done", p, m)
		l, next := m.changes()
		plans(t, "written", q, next, l...)
	}
	if g.Intn(4) > 0 {
		same(t, "Done", q.Done(), m.done())
		agree(t, "after Done", p, m)
		isOver(t, q, api.ErrState)
	}
}

// start returns an empty pool and its model, on equal devices and lines.
func start(t *testing.T, blocks, cut int, choices ...int) (*pool.Pool, *model, *line.Line) {
	l, _ := onDevice(blocks, cut, choices...)
	k, _ := onDevice(blocks, cut, choices...)
	return made(t, l), &model{l: k, has: table{next: 1}}, l
}

// P17.2 to P17.4: any calls, held against the model, with the line cut by any act, and what they do to the device.
func TestModel(t *testing.T) {
	g := rand.New(rand.NewSource(171))
	for i := range 150 {
		cut := -1
		if i%2 == 0 {
			cut = g.Intn(60)
		}
		p, m, l := start(t, 256+g.Intn(4), cut, someChoices(g)...)
		for range 12 {
			live(t, g, p, m, g.Intn(20))
			same(t, "Acts", l.Acts(), m.l.Acts())
			equal(t, "the device", l.Device(), m.l.Device())
		}
	}
}

// someChoices returns up to 9 choices of a crash, most of which tear.
func someChoices(g *rand.Rand) []int {
	l := make([]int, g.Intn(10))
	for i := range l {
		l[i] = []int{0, 1, 2, 3, 63, 64, 65, g.Intn(300) - 150}[g.Intn(8)]
	}
	return l
}

// fill returns a pool on d of which many blocks are used, but not all; all of that is firm.
func fill(t *testing.T, g *rand.Rand, d *device.Device) *pool.Pool {
	t.Helper()
	p := made(t, line.New(d, -1, nil))
	for i := range 15 + g.Intn(20) {
		done(t, p, fmt.Sprint("chunk ", i), someData(g, 4))
	}
	q := p.Begin()
	for _, c := range p.Chunks() {
		if g.Intn(4) == 0 {
			releases(t, q, slices.Repeat([]uint32{c.ID}, c.Refs)...)
		}
	}
	finish(t, q)
	return p
}

// contents returns the bytes of the pool's chunks, with their ids.
func contents(t *testing.T, p *pool.Pool) []entry {
	t.Helper()
	var l []entry
	for _, c := range p.Chunks() {
		s, e := p.Get([]uint32{c.ID}, c.Size)
		same(t, "error of Get", e, api.OK)
		l = append(l, entry{c, s})
	}
	return l
}

// somePlan makes any calls of the plan that are without errors.
func somePlan(t *testing.T, g *rand.Rand, p *pool.Pool, q *pool.Plan) {
	t.Helper()
	for _, c := range p.Chunks() {
		switch g.Intn(5) {
		case 0:
			releases(t, q, slices.Repeat([]uint32{c.ID}, c.Refs)...)
		case 1:
			holds(t, q, c.ID)
		}
	}
	for i := range 6 {
		_, e := q.Put(fmt.Sprint("new ", i) + someData(g, 3))
		same(t, "error of Put", e, api.OK)
	}
}

// P17.6 and P17.7: wherever the line is cut in a Write, the pool is there as it was: on the device, and loaded; and after the next try, as it would be.
func TestCuts(t *testing.T) {
	g := rand.New(rand.NewSource(176))
	for range 8 {
		old := device.New(256)
		p := fill(t, g, old)
		chunks, next, want := p.Chunks(), p.Next(), contents(t, p)
		seed := g.Int63()
		for cut := 0; ; cut++ {
			d := old.Copy()
			l := line.New(d, cut, someChoices(g))
			x := reloaded(t, l, next, want...)
			q := x.Begin()
			somePlan(t, rand.New(rand.NewSource(seed)), x, q)
			e := q.Write()
			alike(t, "Chunks of the pool", x.Chunks(), chunks)
			for _, c := range want {
				was, _ := old.Firm(c.Block)
				is, _ := d.Firm(c.Block)
				same(t, "firm bytes", is, was)
				is, _ = d.Read(c.Block)
				same(t, "bytes", is, was)
			}
			y := reloaded(t, line.New(d, -1, nil), next, want...)
			shows(t, "loaded", y, next, 128-len(want), want...)
			again := y.Begin()
			somePlan(t, rand.New(rand.NewSource(seed)), y, again)
			finish(t, again)
			late := contents(t, y)
			shows(t, "loaded later", reloaded(t, line.New(d, -1, nil), y.Next(), late...), y.Next(), 128-len(late), late...)
			if e == api.OK {
				break
			}
			same(t, "Write", e, api.ErrDown)
		}
	}
}

// P17.6: the Flush at the end of a Write isn't performed, and what was written is torn in any way.
func TestTears(t *testing.T) {
	g := rand.New(rand.NewSource(177))
	old := device.New(300)
	p := fill(t, g, old)
	next, want := p.Next(), contents(t, p)
	for choice := range 66 {
		d := old.Copy()
		l := line.New(d, 5, []int{2 * g.Intn(33), choice, g.Intn(66)}) // the first one is even: the act that cuts the line is lost
		q := reloaded(t, l, next, want...).Begin()
		for i := range 5 {
			puts(t, q, fmt.Sprint("other ", i), next+uint32(i))
		}
		releases(t, q, want[0].ID)
		same(t, "Write", q.Write(), api.ErrDown)
		same(t, "Acts", l.Acts(), 6)
		shows(t, "loaded", reloaded(t, line.New(d, -1, nil), next, want...), next, 150-len(want), want...)
	}
}

// P17.7: Load of Chunks and Next is a pool that behaves alike from then on.
func TestReload(t *testing.T) {
	g := rand.New(rand.NewSource(178))
	for range 60 {
		d := device.New(256)
		p := fill(t, g, d)
		want := contents(t, p)
		shuffled := slices.Clone(want)
		g.Shuffle(len(want), func(i, j int) { shuffled[i], shuffled[j] = shuffled[j], shuffled[i] })
		seed := g.Int63()
		var later []entry
		for i, list := range [][]entry{want, shuffled, want} {
			own := d.Copy()
			x := reloaded(t, line.New(own, -1, nil), p.Next(), list...)
			shows(t, "loaded", x, p.Next(), 128-len(want), want...)
			q := x.Begin()
			somePlan(t, rand.New(rand.NewSource(seed)), x, q)
			finish(t, q)
			if i == 0 {
				later = contents(t, x)
			}
			shows(t, "later", x, x.Next(), 128-len(later), later...)
			shows(t, "loaded later", reloaded(t, line.New(own, -1, nil), x.Next(), later...), x.Next(), 128-len(later), later...)
		}
	}
}

// P17.5: what is put is returned by its ids as long as it is held, equal bytes have one id, and each chunk has one block.
func TestWhatIsPut(t *testing.T) {
	type file struct {
		data string
		ids  []uint32
	}
	g := rand.New(rand.NewSource(175))
	for range 40 {
		l, _ := onDevice(256, -1)
		p := made(t, l)
		var files []file
		for range 60 {
			q := p.Begin()
			next := slices.Clone(files)
			for range 1 + g.Intn(3) {
				if len(next) > 0 && (g.Intn(2) == 0 || len(next) > 20) {
					i := g.Intn(len(next))
					releases(t, q, next[i].ids...)
					next = slices.Delete(next, i, i+1)
					continue
				}
				data := someData(g, 5)
				ids, e := q.Put(data)
				same(t, "error of Put", e, api.OK)
				next = append(next, file{data, ids})
			}
			if g.Intn(4) > 0 {
				finish(t, q)
				files = next
			}
			byId, byData := map[uint32]string{}, map[string]uint32{}
			for _, f := range files {
				gets(t, p, f.data, f.ids...)
				for i, id := range f.ids {
					piece := f.data[64*i : min(64*i+64, len(f.data))]
					if k, is := byData[piece]; is {
						same(t, "id of equal bytes", id, k)
					}
					if s, is := byId[id]; is {
						same(t, "bytes of an id", piece, s)
					}
					byId[id], byData[piece] = piece, id
				}
			}
			same(t, "number of chunks", len(p.Chunks()), len(byId))
			same(t, "used blocks", 128-p.Free(), len(byId))
			used := map[int]bool{}
			for _, c := range p.Chunks() {
				used[c.Block] = true
				s, _ := l.Read(c.Block)
				same(t, "on the device", s, full(byId[c.ID]))
			}
			same(t, "blocks", len(used), len(byId))
		}
	}
}
