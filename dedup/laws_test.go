package dedup_test

import (
	"cmp"
	"fmt"
	"math/rand"
	"slices"
	"strings"
	"testing"

	"revert/api"
	"revert/dedup"
)

// model is a table as the chapter defines it: its chunks, in any order, and its next id.
type model struct {
	list []entry
	next uint64
}

func newModel() *model { return &model{next: 1} }

// place returns where the chunk with this id is, or -1.
func (m *model) place(id uint32) int {
	return slices.IndexFunc(m.list, func(c entry) bool { return c.id == id })
}

// find is Find, word by word; 0 is none.
func (m *model) find(data string) uint32 {
	for _, c := range m.list {
		if c.data == data {
			return c.id
		}
	}
	return 0
}

// add is Add, word by word.
func (m *model) add(data string, block int) (uint32, api.Errno) {
	if len(data) == 0 || len(data) > 64 {
		return 0, api.ErrForm
	}
	if m.find(data) != 0 {
		return 0, api.ErrThere
	}
	if m.next == 1<<32-1 {
		return 0, api.ErrCount
	}
	m.list = append(m.list, entry{uint32(m.next), data, block, 1})
	m.next++
	return uint32(m.next - 1), api.OK
}

// load is Load, word by word.
func (m *model) load(c entry) api.Errno {
	if c.id == 0 || c.id == 1<<32-1 {
		return api.ErrArg
	}
	if len(c.data) == 0 || len(c.data) > 64 || c.refs < 1 || c.refs > 65535 {
		return api.ErrForm
	}
	if m.place(c.id) >= 0 || m.find(c.data) != 0 {
		return api.ErrThere
	}
	m.list = append(m.list, c)
	if m.next <= uint64(c.id) {
		m.next = uint64(c.id) + 1
	}
	return api.OK
}

// hold is Hold, word by word.
func (m *model) hold(id uint32) api.Errno {
	i := m.place(id)
	if i < 0 {
		return api.ErrNone
	}
	if m.list[i].refs == 65535 {
		return api.ErrCount
	}
	m.list[i].refs++
	return api.OK
}

// release is Release, word by word.
func (m *model) release(id uint32) (bool, api.Errno) {
	i := m.place(id)
	if i < 0 {
		return false, api.ErrNone
	}
	m.list[i].refs--
	if m.list[i].refs > 0 {
		return false, api.OK
	}
	m.list = slices.Delete(m.list, i, i+1)
	return true, api.OK
}

// chunks returns the chunks, ordered by ids.
func (m *model) chunks() []entry {
	l := slices.Clone(m.list)
	slices.SortFunc(l, func(a, b entry) int { return cmp.Compare(a.id, b.id) })
	return l
}

// copy returns a model of its own.
func (m *model) copy() *model { return &model{slices.Clone(m.list), m.next} }

// someData returns bytes of which there are few, so that they meet again; many of them share a bucket of the index, and some are too long.
func someData(g *rand.Rand) string {
	switch g.Intn(12) {
	case 0:
		return strings.Repeat("x", []int{0, 1, 63, 64, 65, 200}[g.Intn(6)])
	case 1:
		return string([]byte{byte(g.Intn(256)), byte(g.Intn(256))})
	}
	return alikeIn(3, 10)[g.Intn(10)]
}

// someId returns mostly the id of a chunk.
func someId(g *rand.Rand, m *model) uint32 {
	if len(m.list) > 0 && g.Intn(4) > 0 {
		return m.list[g.Intn(len(m.list))].id
	}
	return []uint32{0, 1, uint32(m.next) - 1, uint32(m.next), uint32(m.next) + 1, uint32(m.next) + 20, uint32(g.Intn(60)), last - 1, last}[g.Intn(9)]
}

// someLoad returns what may be loaded; far ids are rare, as they end a table.
func someLoad(g *rand.Rand, m *model) entry {
	c := entry{someId(g, m), someData(g), g.Intn(2048), 1 + g.Intn(3)}
	if c.id >= last-1 && g.Intn(30) > 0 {
		c.id = uint32(1 + g.Intn(80))
	}
	if g.Intn(5) == 0 {
		c.refs = []int{-1, 0, 65534, 65535, 65536}[g.Intn(5)]
	}
	return c
}

// step makes one call of the table and of the model, and holds the answers against each other.
func step(t *testing.T, g *rand.Rand, x *dedup.Table, m *model) {
	t.Helper()
	switch g.Intn(11) {
	case 0, 1, 2:
		data, block := someData(g), g.Intn(2048)
		id, e := x.Add(data, block)
		wantId, want := m.add(data, block)
		same(t, fmt.Sprintf("error of Add of %q", data), e, want)
		same(t, fmt.Sprintf("Add of %q", data), id, wantId)
	case 3:
		c := someLoad(g, m)
		same(t, fmt.Sprint("Load of ", c), x.Load(c.id, c.data, c.block, c.refs), m.load(c))
	case 4, 5:
		id := someId(g, m)
		same(t, fmt.Sprint("Hold of ", id), x.Hold(id), m.hold(id))
	case 6, 7, 8, 9:
		id := someId(g, m)
		is, e := m.release(id)
		releases(t, x, id, is, e)
	default:
		next := uint32(m.next) + uint32(g.Intn(6)) - 3
		if g.Intn(300) == 0 {
			next = last - uint32(g.Intn(4))
		}
		if m.next > 3 || next < 100 || next > 1<<31 && g.Intn(100) == 0 {
			x.Skip(next)
			m.next = max(m.next, uint64(next))
		}
	}
}

// agree ends the test unless the table is what the model is.
func agree(t *testing.T, what string, x *dedup.Table, m *model) {
	t.Helper()
	shows(t, what, x, uint32(m.next), m.chunks()...)
	for _, s := range alikeIn(3, 10) {
		finds(t, x, s, m.find(s))
	}
}

// P16.1 to P16.3: any calls, held against the model.
func TestModel(t *testing.T) {
	g := rand.New(rand.NewSource(161))
	for range 400 {
		x, m := dedup.New(), newModel()
		for i := range 20 + g.Intn(300) {
			step(t, g, x, m)
			if i%8 == 0 {
				agree(t, "in between", x, m)
			}
		}
		agree(t, "in the end", x, m)
	}
}

// P16.4: what was added is there, with its data and block, until it was released as often as it was referred to; no id is assigned twice, not even one that was loaded or skipped.
func TestCountedReferences(t *testing.T) {
	g := rand.New(rand.NewSource(164))
	for range 200 {
		x := dedup.New()
		refs, chunk, had := map[uint32]int{}, map[uint32]entry{}, map[uint32]bool{}
		most := uint32(0)
		for range 50 + g.Intn(300) {
			id := uint32(g.Intn(int(most) + 2))
			switch g.Intn(5) {
			case 0, 1:
				data, block := someData(g), g.Intn(2048)
				k, e := x.Add(data, block)
				if e != api.OK {
					continue
				}
				same(t, fmt.Sprint("the id ", k, " was there"), had[k], false)
				same(t, fmt.Sprint("the id ", k, " is above all"), k > most, true)
				most, had[k], refs[k], chunk[k] = k, true, 1, entry{k, data, block, 1}
			case 2:
				if x.Hold(id) == api.OK {
					refs[id]++
				}
			case 3:
				is, e := x.Release(id)
				same(t, "there was a chunk", e == api.OK, refs[id] > 0)
				same(t, "it was the last reference", is, refs[id] == 1)
				refs[id] = max(0, refs[id]-1)
			default:
				if c := (entry{most + uint32(1+g.Intn(3)), someData(g), 5, 2}); x.Load(c.id, c.data, c.block, c.refs) == api.OK {
					most, had[c.id], refs[c.id], chunk[c.id] = c.id, true, 2, c
				}
			}
			for k, c := range chunk {
				if c.refs = refs[k]; c.refs == 0 {
					lacks(t, x, k)
					continue
				}
				gets(t, x, c)
				finds(t, x, c.data, k)
			}
		}
	}
}

// P16.4: different data have different ids.
func TestDifferentIds(t *testing.T) {
	g := rand.New(rand.NewSource(165))
	for range 100 {
		x, m := dedup.New(), newModel()
		for range 200 {
			step(t, g, x, m)
		}
		owner := map[uint32]string{}
		for id := range x.All() {
			data, _, _, _ := x.Get(id)
			k, is := x.Find(data)
			same(t, "it is found", is, true)
			same(t, "by its data", k, id)
			_, twice := owner[k]
			same(t, "twice", twice, false)
			owner[k] = data
		}
		same(t, "so many", len(owner), x.Count())
	}
}

// P16.5: copies go their own ways, as the models do.
func TestCopies(t *testing.T) {
	g := rand.New(rand.NewSource(166))
	for range 60 {
		l, models := []*dedup.Table{dedup.New()}, []*model{newModel()}
		for range 400 {
			i := g.Intn(len(l))
			if len(l) < 6 && g.Intn(20) == 0 {
				l, models = append(l, l[i].Copy()), append(models, models[i].copy())
				continue
			}
			step(t, g, l[i], models[i])
		}
		for i, x := range l {
			agree(t, fmt.Sprint("the table ", i), x, models[i])
		}
	}
}

// reload returns a new table into which all chunks of x are loaded, in any order, and which skips to its next id.
func reload(t *testing.T, g *rand.Rand, x *dedup.Table) *dedup.Table {
	t.Helper()
	var l []entry
	for id := range x.All() {
		data, block, refs, _ := x.Get(id)
		l = append(l, entry{id, data, block, refs})
	}
	g.Shuffle(len(l), func(i, j int) { l[i], l[j] = l[j], l[i] })
	y := dedup.New()
	if g.Intn(2) == 0 { // the order of Skip and Load makes no difference, either
		y.Skip(x.Next())
	}
	loads(t, y, l...)
	y.Skip(x.Next())
	return y
}

// P16.6: a new table into which all chunks are loaded behaves like the other one from then on.
func TestReload(t *testing.T) {
	g := rand.New(rand.NewSource(167))
	for range 200 {
		x, m := dedup.New(), newModel()
		for range g.Intn(200) {
			step(t, g, x, m)
		}
		y := reload(t, g, x)
		agree(t, "the new table", y, m)
		seed := g.Int63()
		for _, z := range []*dedup.Table{x, y, reload(t, g, y)} {
			calls, own := rand.New(rand.NewSource(seed)), m.copy()
			for range 100 {
				step(t, calls, z, own)
			}
			agree(t, "after the same calls", z, own)
		}
	}
}

// P16.1: while a loop goes on, calls change the table; what is produced rises and is there, and what was there all the time is produced.
func TestLoopsWithCalls(t *testing.T) {
	g := rand.New(rand.NewSource(168))
	for range 300 {
		x, m := dedup.New(), newModel()
		for range g.Intn(200) {
			step(t, g, x, m)
		}
		stay := map[uint32]bool{} // there from the start of the loop on
		for _, c := range m.list {
			stay[c.id] = true
		}
		before, got := uint32(0), map[uint32]bool{}
		for id := range x.All() {
			same(t, fmt.Sprint(id, " rises"), id > before, true)
			same(t, fmt.Sprint(id, " is there"), m.place(id) >= 0, true)
			before, got[id] = id, true
			for range g.Intn(4) {
				step(t, g, x, m)
				for k := range stay {
					if m.place(k) < 0 && !got[k] {
						delete(stay, k)
					}
				}
			}
		}
		for k := range stay {
			same(t, fmt.Sprint(k, " was produced"), got[k], true)
		}
		agree(t, "after the loop", x, m)
	}
}
