package region_test

import (
	"math/rand"
	"slices"
	"strings"
	"testing"

	"revert/api"
	"revert/device"
	"revert/line"
	"revert/region"
)

// The kinds of calls.
const (
	appends = iota
	flushes
	seals
)

// call is something that is requested of a region.
type call struct {
	kind  int
	group string
	gen   uint32
}

// of performs a call.
func (c call) of(r *region.Region) api.Errno {
	switch c.kind {
	case appends:
		return r.Append(c.group)
	case flushes:
		return r.Flush()
	}
	return r.Seal(c.gen)
}

// someGroup returns a group; many of its bytes are 0, and all of them may be.
func someGroup(g *rand.Rand) string {
	b := make([]byte, []int{0, 1, 57, 58, 59, 116, 117, g.Intn(300)}[g.Intn(8)])
	few := g.Intn(3)
	for i := range b {
		if g.Intn(3) < few {
			b[i] = byte(g.Intn(256))
		}
	}
	return string(b)
}

// someCalls returns n calls.
func someCalls(g *rand.Rand, n int) []call {
	l := make([]call, n)
	for i := range l {
		switch g.Intn(6) {
		case 0:
			l[i] = call{kind: flushes}
		case 1:
			l[i] = call{kind: seals, gen: []uint32{1, 2, 255, 256, 0x01010101, 0x01020304, 1 << 31, g.Uint32() | 1}[g.Intn(8)]}
		default:
			l[i] = call{kind: appends, group: someGroup(g)}
		}
	}
	return l
}

// someChoices returns up to 9 choices of a crash, most of which tear.
func someChoices(g *rand.Rand) []int {
	l := make([]int, g.Intn(10))
	for i := range l {
		l[i] = []int{0, 1, 2, 3, 4, 5, 59, 60, 61, 62, 63, 64, 65, g.Intn(300) - 150}[g.Intn(14)]
	}
	return l
}

// model is what is known of a region, call by call.
type model struct {
	size   int
	groups []string
	firm   int      // how many of the groups are durable
	gens   []uint32 // those that were to be sealed
	sealed bool     // whether the last one was
	bad    bool
	more   []string // the group whose Append returned an error of the line
}

// left returns the number of log blocks that are left.
func (m *model) left() int {
	n := m.size - 1
	for _, group := range m.groups {
		n -= max(1, (len(group)+57)/58)
	}
	return n
}

// fits reports whether a group can be appended.
func (m *model) fits(group string) bool { return max(1, (len(group)+57)/58) <= m.left() }

// want returns what a call should return, if the line does its part, and whether it is asked at all.
func (m *model) want(c call) (e api.Errno, asked bool) {
	switch {
	case m.bad:
		return api.ErrState, false
	case c.kind == appends && !m.fits(c.group):
		return api.ErrFull, false
	}
	return api.OK, true
}

// note notes what a call returned for which the line was asked.
func (m *model) note(c call, e api.Errno) {
	m.bad = e != api.OK
	switch {
	case c.kind == seals:
		m.gens, m.sealed = append(m.gens, c.gen), !m.bad
	case c.kind == appends && m.bad:
		m.more = []string{c.group}
	case c.kind == appends:
		m.groups = append(m.groups, c.group)
	}
	if c.kind != appends && !m.bad {
		m.firm = len(m.groups)
	}
}

// gen returns the last generation that was sealed.
func (m *model) gen() uint32 {
	if len(m.gens) == 0 {
		return 0
	}
	return m.gens[len(m.gens)-1]
}

// allows ends the test unless these may be the contents of the region after a crash.
func (m *model) allows(t *testing.T, gen uint32, groups []string) {
	t.Helper()
	may := slices.Concat(m.groups, m.more)
	if len(groups) < m.firm || len(groups) > len(may) || !slices.Equal(groups, may[:len(groups)]) {
		t.Fatalf("groups: got %q, want %q, at least %d of them", groups, may, m.firm)
	}
	if m.sealed || len(m.gens) == 0 {
		same(t, "generation", gen, m.gen())
	} else if gen != 0 && !slices.Contains(m.gens, gen) {
		t.Fatalf("generation: got %d, want 0 or one of %d", gen, m.gens)
	}
}

// P13.2, P13.3 and P13.5: without cuts, a region has what was appended to it and sealed, call by call.
func TestCalls(t *testing.T) {
	g := rand.New(rand.NewSource(13))
	for range 60 {
		l, d := onDevice(256, -1)
		size, at := 2+g.Intn(60), g.Intn(100)
		r, m := format(t, l, at, size), &model{size: size}
		holds(t, l, at, size, 0)
		for _, c := range someCalls(g, 30) {
			want, asked := m.want(c)
			same(t, "call", c.of(r), want)
			if asked {
				m.note(c, api.OK)
			}
			same(t, "Left", r.Left(), m.left())
			holds(t, l, at, size, m.gen(), m.groups...)
			if c.kind != appends {
				alike(t, "Fresh", d.Fresh(), nil)
			}
		}
	}
}

// perform formats a region of a device that is full of old bytes, performs calls, up to all of them, and returns what is known then; false if the line was cut by Format.
func perform(t *testing.T, l *line.Line, at, size int, calls []call) (*model, bool) {
	t.Helper()
	r, e := region.Format(l, at, size)
	if e != api.OK {
		return nil, false
	}
	m := &model{size: size}
	for _, c := range calls {
		want, asked := m.want(c)
		e := c.of(r)
		if asked {
			m.note(c, e)
			if e == api.ErrDown && l.Down() {
				want = e
			}
		}
		same(t, "call", e, want)
		same(t, "Left", r.Left(), m.left())
	}
	return m, true
}

// P13.4: the line is cut at each of its acts, with many choices.
func TestCuts(t *testing.T) {
	g := rand.New(rand.NewSource(134))
	torn, more := 0, 0
	for range 30 {
		old := device.New(256)
		for at := range 256 {
			old.Write(at, good(at-9, xs(58), true))
		}
		old.Flush()
		at, size := g.Intn(20), 5+g.Intn(20)
		calls := someCalls(g, 12)
		for cut := size + 1; ; cut++ {
			var l *line.Line
			for range 8 {
				d := old.Copy()
				l = line.New(d, cut, someChoices(g))
				m, ok := perform(t, l, at, size, calls)
				same(t, "formatted", ok, true)
				l.Blow() // what a program does that ends
				after := line.New(d, -1, nil)
				gen, groups, e := region.Read(after, at, size)
				same(t, "error of Read", e, api.OK)
				m.allows(t, gen, groups)
				holds(t, after, at, size, gen, groups...)
				if len(groups) < len(m.groups) {
					torn++
				} else if len(groups) > len(m.groups) {
					more++
				}
			}
			if l.Acts() <= cut {
				break
			}
		}
	}
	if torn == 0 || more == 0 {
		t.Fatalf("%d reads without a group that was appended, and %d with one whose Append returned an error: the test tests too little", torn, more)
	}
}

// P13.4: each tear of a single block of a group, and of a header over another one.
func TestTears(t *testing.T) {
	group := strings.Repeat("0123456789", 17) // 170 bytes, 3 blocks
	for choice := range 66 {
		l, d := onDevice(256, -1, 64, choice, 64) // of three blocks, the one in the middle is torn
		r := format(t, l, 64, 10)
		same(t, "Append", r.Append(group), api.OK)
		l.Blow()
		after := line.New(d, -1, nil)
		if choice < 64 { // the last byte of the block is not 0
			holds(t, after, 64, 10, 0)
		} else {
			holds(t, after, 64, 10, 0, group)
		}

		l, d = onDevice(256, 14, choice) // 11 acts of Format, 2 of the first Seal, and the Write of the second
		r = format(t, l, 64, 10)
		same(t, "Seal", r.Seal(0x01020304), api.OK)
		same(t, "Seal", r.Seal(0x05060708), api.ErrDown)
		gen, groups, e := region.Read(line.New(d, -1, nil), 64, 10)
		same(t, "error of Read", e, api.OK)
		same(t, "number of groups", len(groups), 0)
		switch { // an odd choice has the Flush performed
		case choice == 0:
			same(t, "generation", gen, 0x01020304)
		case choice%2 == 1 || choice == 64:
			same(t, "generation", gen, 0x05060708)
		default:
			same(t, "generation", gen, 0)
		}
	}
}

// P13.4: a block whose number ends with a byte 0 is complete with the first of the two; nothing wrong is read then.
func TestTearOfNumber256(t *testing.T) {
	for choice := range 66 {
		l, d := onDevice(2048, -1, choice)
		r := format(t, l, 0, 300)
		for range 255 {
			same(t, "Append", r.Append("ab"), api.OK)
		}
		same(t, "Flush", r.Flush(), api.OK)
		same(t, "Append", r.Append(xs(58)), api.OK)
		l.Blow()
		_, groups, e := region.Read(line.New(d, -1, nil), 0, 300)
		same(t, "error of Read", e, api.OK)
		if choice < 63 {
			same(t, "number of groups", len(groups), 255)
		} else {
			same(t, "number of groups", len(groups), 256)
			same(t, "the last group", groups[255], xs(58))
		}
	}
}

// isComplete reports whether a block is a complete log block with the number i.
func isComplete(s string, i int) bool {
	end, size := int(s[2]), int(s[3])
	return end <= 1 && size <= 58 && (end == 1 || size == 58) && s == logBlock(i, end, size, s[4:4+size], i)
}

// contents returns the groups of log blocks.
func contents(logs []string) []string {
	var groups []string
	group := ""
	for i, s := range logs {
		if !isComplete(s, i+1) {
			break
		}
		group += s[4 : 4+s[3]]
		if s[2] == 1 {
			groups, group = append(groups, group), ""
		}
	}
	return groups
}

// P13.3 and P13.5: whatever stands in the blocks, Read ends, and reads what the chapter's definitions say.
func TestAnyBlocks(t *testing.T) {
	g := rand.New(rand.NewSource(135))
	for range 5000 {
		l, d := onDevice(256, -1)
		logs := make([]string, 1+g.Intn(8))
		for i := range logs {
			s := good(i+1, xs(58), false)
			if g.Intn(2) == 0 {
				s = good(i+1, xs(g.Intn(59)), true)
			}
			if g.Intn(8) == 0 { // one byte is changed
				b := []byte(s)
				b[[]int{0, 1, 2, 3, 62, 63, g.Intn(64)}[g.Intn(7)]] = byte(g.Intn([]int{2, 64, 256}[g.Intn(3)]))
				s = string(b)
			}
			logs[i] = s
			d.Write(i+1, s)
		}
		gen := uint32(g.Intn(3))
		d.Write(0, header(gen, gen))
		holds(t, l, 0, len(logs)+1, gen, contents(logs)...)
	}
}

// P13.5: results are new memory: what becomes of a list of groups isn't seen by later calls.
func TestNewMemory(t *testing.T) {
	l, _ := onDevice(256, -1)
	r := format(t, l, 64, 10)
	for _, group := range []string{"a", "b", "c"} {
		same(t, "Append", r.Append(group), api.OK)
	}
	_, groups, _ := region.Read(l, 64, 10)
	_, other, _ := region.Read(l, 64, 10)
	clear(groups)
	alike(t, "groups", other, []string{"a", "b", "c"})
	holds(t, l, 64, 10, 0, "a", "b", "c")
}
