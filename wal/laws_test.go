package wal_test

import (
	"fmt"
	"math/rand"
	"slices"
	"strings"
	"testing"

	"revert/api"
	"revert/device"
	"revert/line"
	"revert/region"
	"revert/wal"
)

// The kinds of calls.
const (
	commits = iota
	checkpoints
)

// call is something that is requested of a log.
type call struct {
	kind  int
	group string
}

// of performs a call.
func (c call) of(w *wal.Wal) api.Errno {
	if c.kind == commits {
		return w.Commit(c.group)
	}
	return w.Checkpoint(c.group)
}

// someGroup returns a group; now and then it is longer than a region.
func someGroup(g *rand.Rand) string {
	b := make([]byte, []int{0, 1, 57, 58, 59, 116, 117, g.Intn(300), g.Intn(300), 900 + g.Intn(3000)}[g.Intn(10)])
	few := g.Intn(4)
	for i := range b {
		if g.Intn(3) < few {
			b[i] = byte(g.Intn(256))
		}
	}
	return string(b)
}

// someCalls returns n calls.
func someCalls(g *rand.Rand, n int) []call {
	l := make([]call, n)
	for i := range l {
		l[i] = call{kind: commits, group: someGroup(g)}
		if g.Intn(5) == 0 {
			l[i].kind = checkpoints
		}
	}
	return l
}

// someChoices returns up to 9 choices of a crash, most of which tear.
func someChoices(g *rand.Rand) []int {
	l := make([]int, g.Intn(10))
	for i := range l {
		l[i] = []int{0, 1, 2, 3, 4, 5, 59, 60, 61, 62, 63, 64, 65, g.Intn(300) - 150}[g.Intn(14)]
	}
	return l
}

// someDevice returns a device that is full of old log blocks and headers, all of them firm.
func someDevice(g *rand.Rand, blocks int) *device.Device {
	d := device.New(blocks)
	n := blocks / 4
	for at := range blocks {
		d.Write(at, logBlock(at%n, xs(58), g.Intn(2) == 0))
	}
	for side := range 2 {
		d.Write(side*n, header(uint32(g.Intn(5))))
	}
	d.Flush()
	return d
}

// act is what is done to a line; with at below 0, that is a Flush.
type act struct {
	at int
	s  string
}

// over does it.
func (a act) over(l *line.Line) api.Errno {
	if a.at < 0 {
		return l.Flush()
	}
	return l.Write(a.at, a.s)
}

// model is a log, word by word as the chapter defines it, by the acts that it takes.
type model struct {
	size, side, used int
	gen              uint32
	acts             []act
}

// format makes a region empty.
func (m *model) format(side int) {
	for i := range m.size {
		m.acts = append(m.acts, act{side*m.size + i, ""})
	}
	m.acts = append(m.acts, act{at: -1})
}

// add appends a group to the region that is used, and flushes the line.
func (m *model) add(group string) {
	for n := needs(len(group)); n > 0; n-- {
		m.used++
		piece := group[:min(58, len(group))]
		group = group[len(piece):]
		m.acts = append(m.acts, act{m.side*m.size + m.used, logBlock(m.used, piece, n == 1)})
	}
	m.acts = append(m.acts, act{at: -1})
}

// anew starts anew.
func (m *model) anew(side int, gen uint32, group string) {
	m.format(side)
	m.side, m.gen, m.used = side, gen, 0
	m.add(group)
	m.acts = append(m.acts, act{side * m.size, header(gen)}, act{at: -1})
}

// perform performs a call, and returns what it should return.
func (m *model) perform(c call) api.Errno {
	if c.kind == commits {
		if m.used+needs(len(c.group)) > m.size-1 {
			return api.ErrFull
		}
		m.add(c.group)
		return api.OK
	}
	if needs(len(c.group)) > m.size-1 {
		return api.ErrFull
	}
	m.anew(1-m.side, m.gen+1, c.group)
	return api.OK
}

// P14.1, P14.4 and P14.5: the acts of all calls, one by one, with the line cut by each of them.
func TestActs(t *testing.T) {
	g := rand.New(rand.NewSource(141))
	for _, blocks := range []int{256, 258, 300} {
		old := someDevice(g, blocks)
		dump, calls := xs(g.Intn(200)), someCalls(g, 9)
		m := &model{size: blocks / 4}
		m.format(1)
		m.anew(0, 1, dump)
		for _, c := range calls {
			m.perform(c)
		}
		for cut := range len(m.acts) + 1 {
			choices := someChoices(g)
			d, e := old.Copy(), old.Copy()
			l, k := line.New(d, cut, choices), line.New(e, cut, choices)
			if w, _ := wal.Make(l, dump); w != nil {
				for _, c := range calls {
					c.of(w)
				}
			}
			for _, a := range m.acts {
				a.over(k)
			}
			equal(t, fmt.Sprint("cut by ", cut), d, e)
			same(t, "Acts", l.Acts(), k.Acts())
		}
	}
}

// P14.3, P14.4, P14.5 and P14.7: without cuts, what calls return and leave, call by call.
func TestCalls(t *testing.T) {
	g := rand.New(rand.NewSource(142))
	full := 0
	for range 30 {
		d := someDevice(g, 256+g.Intn(40))
		l := line.New(d, -1, nil)
		w := made(t, l, "ab")
		m, groups := &model{size: d.Blocks() / 4}, []string{"ab"}
		m.anew(0, 1, "ab")
		for _, c := range someCalls(g, 40) {
			if c.kind == commits {
				same(t, "Fits", w.Fits(len(c.group)), m.used+needs(len(c.group)) < m.size)
			}
			acts, want := l.Acts(), m.perform(c)
			same(t, "call", c.of(w), want)
			switch {
			case want != api.OK:
				same(t, "acts of a call that is refused", l.Acts(), acts)
				full++
			case c.kind == commits:
				groups = append(groups, c.group)
			default:
				groups = []string{c.group}
			}
			same(t, "Gen", w.Gen(), m.gen)
			holds(t, d, m.gen, groups...)
		}
	}
	if full == 0 {
		t.Fatal("no call returned ErrFull: the test tests too little")
	}
}

// state is the groups that Open may return, and the generation.
type state struct {
	groups []string
	gen    uint32
}

// is reports whether that is what Open returned.
func (s state) is(w *wal.Wal, groups []string) bool {
	return slices.Equal(s.groups, groups) && s.gen == w.Gen()
}

// tally counts how the calls in progress ended that were cut.
type tally struct{ before, group, dump int }

// after returns what is sure after c, a call on sure that returned e, and what may be there in its place.
func after(t *testing.T, sure state, c call, e api.Errno) (state, state) {
	t.Helper()
	next := state{[]string{c.group}, sure.gen + 1}
	if c.kind == commits {
		next = state{slices.Concat(sure.groups, []string{c.group}), sure.gen}
	}
	switch e {
	case api.OK:
		return next, next
	case api.ErrDown:
		return sure, next
	}
	same(t, "call", e, api.ErrFull)
	return sure, sure
}

// live performs calls on w, up to the first one that is cut, then cuts the line if it isn't cut, and returns what is there then, which Open on a new line tells.
func live(t *testing.T, l *line.Line, w *wal.Wal, sure state, calls []call, n *tally) state {
	t.Helper()
	may, kind := sure, 0
	for _, c := range calls {
		if sure, may = after(t, sure, c, c.of(w)); l.Down() {
			kind = c.kind
			break
		}
	}
	l.Blow()
	k := line.New(l.Device(), -1, nil)
	again, groups, e := wal.Open(k)
	same(t, "error of Open", e, api.OK)
	holds(t, l.Device(), again.Gen(), groups...)
	switch {
	case sure.is(again, groups):
		n.before++
		return sure
	case !may.is(again, groups):
		t.Fatalf("got %q of %d, want %q of %d, or %q of %d", groups, again.Gen(), sure.groups, sure.gen, may.groups, may.gen)
	case kind == commits:
		n.group++
	default:
		n.dump++
	}
	return may
}

// enough ends the test unless everything occurred.
func (n tally) enough(t *testing.T) {
	t.Helper()
	if n.before == 0 || n.group == 0 || n.dump == 0 {
		t.Fatalf("%+v: the test tests too little", n)
	}
}

// next opens what is on the device over a line, and puts a Checkpoint ahead of some calls.
func next(t *testing.T, g *rand.Rand, l *line.Line, sure state) (*wal.Wal, []call) {
	t.Helper()
	w := opened(t, l, sure.groups...)
	same(t, "Gen", w.Gen(), sure.gen)
	return w, slices.Concat([]call{{checkpoints, strings.Repeat("d", g.Intn(200))}}, someCalls(g, g.Intn(9)))
}

// P14.6: after a Make, the line is cut by each act of some calls, and that holds again, over an Open and a Checkpoint.
func TestCuts(t *testing.T) {
	g := rand.New(rand.NewSource(146))
	var n tally
	for range 6 {
		old := someDevice(g, 256)
		made(t, line.New(old, -1, nil), "ab")
		calls := slices.Concat(someCalls(g, 6), []call{{checkpoints, xs(100)}}, someCalls(g, 6))
		for cut := 65 + 69; ; cut++ {
			d := old.Copy()
			l := line.New(d, cut, someChoices(g))
			w := made(t, l, "ab")
			sure := live(t, l, w, state{[]string{"ab"}, 1}, calls, &n)
			for range 2 {
				k := line.New(d, g.Intn(100), someChoices(g))
				w, calls := next(t, g, k, sure)
				sure = live(t, k, w, sure, calls, &n)
			}
			if l.Acts() <= cut {
				break
			}
		}
	}
	n.enough(t)
}

// P14.6: a long life, with one crash after another.
func TestLongLife(t *testing.T) {
	g := rand.New(rand.NewSource(147))
	var n tally
	for _, blocks := range []int{256, 261, 2048} {
		d := someDevice(g, blocks)
		made(t, line.New(d, -1, nil), "")
		sure := state{[]string{""}, 1}
		for range 150 {
			cut := blocks/4 + g.Intn(16) // about where the first Checkpoint writes its group, and its header
			if g.Intn(3) == 0 {
				cut = g.Intn(2 * blocks)
			}
			l := line.New(d, cut, someChoices(g))
			w, calls := next(t, g, l, sure)
			sure = live(t, l, w, sure, calls, &n)
		}
	}
	n.enough(t)
}

// P14.6: each tear of a single block: of a group, of a header that is written, and of one that is made empty.
func TestTears(t *testing.T) {
	group := strings.Repeat("0123456789", 17) // 170 bytes, 3 blocks
	for choice := range 66 {
		for cut := range 69 + 4 + 1 {
			d := device.New(256)
			made(t, line.New(d, -1, nil), "ab")
			sealed(t, d, 1, 0x01020304, "old")
			l := line.New(d, cut, []int{choice})
			var n tally
			live(t, l, opened(t, l, "old"), state{[]string{"old"}, 0x01020304}, []call{{checkpoints, "new"}, {commits, group}}, &n)
		}
	}
}

// P14.6: a Checkpoint that is cut ahead of its Seal leaves the groups alone, however often it is tried.
func TestCheckpointAgain(t *testing.T) {
	g := rand.New(rand.NewSource(148))
	d := device.New(256)
	w := made(t, line.New(d, -1, nil), "ab")
	same(t, "Commit", w.Commit("cd"), api.OK)
	for cut := range 67 {
		l := line.New(d, cut, someChoices(g))
		same(t, "Checkpoint", opened(t, l, "ab", "cd").Checkpoint("ef"), api.ErrDown)
		holds(t, d, 1, "ab", "cd")
	}
	l := line.New(d, -1, nil)
	same(t, "Checkpoint", opened(t, l, "ab", "cd").Checkpoint("ef"), api.OK)
	holds(t, d, 2, "ef")
}

// P14.2 and P14.7: whatever stands in the blocks, Open goes by what region.Read returns for both regions, and calls end.
func TestAnyBlocks(t *testing.T) {
	g := rand.New(rand.NewSource(149))
	opens := 0
	for range 400 {
		d := someDevice(g, 256+g.Intn(8))
		size := d.Blocks() / 4
		for range g.Intn(6) {
			b := []byte(logBlock(g.Intn(70), xs(g.Intn(59)), true))
			b[g.Intn(64)] = byte(g.Intn(256))
			d.Write(g.Intn(2)*size+g.Intn(4), string(b))
		}
		l := line.New(d, g.Intn(200)-1, someChoices(g))
		one, a, _ := region.Read(l, 0, size)
		two, b, _ := region.Read(l, size, size)
		if two > one {
			one, a = two, b
		}
		w, groups, e := wal.Open(l)
		if one == 0 {
			notOpened(t, l, api.ErrNone)
			continue
		}
		opens++
		same(t, "error of Open", e, api.OK)
		alike(t, "groups", groups, a)
		same(t, "Gen", w.Gen(), one)
		for _, c := range someCalls(g, 4) {
			c.of(w)
		}
	}
	if opens == 0 {
		t.Fatal("nothing was opened: the test tests too little")
	}
}

// P14.2: results are new memory: what becomes of a list of groups isn't seen by later calls.
func TestNewMemory(t *testing.T) {
	l, d := onDevice(256, -1)
	w := made(t, l, "a")
	same(t, "Commit", w.Commit("b"), api.OK)
	_, groups, _ := wal.Open(l)
	other := opened(t, l, "a", "b")
	clear(groups)
	_, groups, _ = wal.Open(l)
	alike(t, "groups", groups, []string{"a", "b"})
	clear(groups)
	holds(t, d, 1, "a", "b")
	same(t, "Checkpoint", other.Checkpoint("c"), api.OK)
	holds(t, d, 2, "c")
}
