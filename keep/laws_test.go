package keep_test

import (
	"fmt"
	"math"
	"math/rand"
	"slices"
	"testing"

	"revert/api"
	"revert/keep"
)

// model reports whether p keeps s, of the versions l: word by word as the chapter defines it.
func model(p api.Policy, l []stamp, s stamp, now uint32) bool {
	age := max(int64(now)-int64(s.Tick), 0)
	beaten := func(ticks uint32) bool {
		return slices.ContainsFunc(l, func(o stamp) bool {
			return o.Tick/ticks == s.Tick/ticks && (o.Tick > s.Tick || o.Tick == s.Tick && o.ID > s.ID)
		})
	}
	switch p.Kind {
	case api.Trash:
		return p.Age == 0 || age <= int64(p.Age)
	case api.Staggered:
		return age < 8 || age < 64 && !beaten(8) || age < 512 && age >= 64 && !beaten(64)
	}
	return true
}

// as fails the test unless p keeps of l what the model says.
func as(t *testing.T, p api.Policy, l []stamp, now uint32) {
	t.Helper()
	var is []bool
	var kept []stamp
	for _, s := range l {
		is = append(is, model(p, l, s, now))
		if is[len(is)-1] {
			kept = append(kept, s)
		}
	}
	list(t, fmt.Sprint("Keep of ", p, " for ", l, " now ", now), keep.Keep(p, l, now), is)
	list(t, fmt.Sprint("Kept of ", p, " for ", l, " now ", now), keep.Kept(p, l, now), kept)
}

// policies are some of all kinds.
func policies() []api.Policy {
	return []api.Policy{staggered, trash(0), trash(1), trash(7), trash(8), trash(64), trash(500), {Kind: 2, Age: 3}, {Kind: 255}}
}

// some returns up to 30 versions with ticks below span from base on, a few of them alike.
func some(g *rand.Rand, base, span uint32) []stamp {
	l := make([]stamp, g.Intn(31))
	for i := range l {
		l[i] = stamp{ID: uint32(g.Intn(40)), Tick: base + uint32(g.Intn(int(span)))}
		if i > 0 && g.Intn(8) == 0 {
			l[i].Tick = l[i-1].Tick
		}
	}
	return l
}

// runs calls f with versions, and a tick that is at times below some of theirs.
func runs(f func(l []stamp, now uint32, g *rand.Rand)) {
	g := rand.New(rand.NewSource(9))
	for range 4000 {
		span := []uint32{3, 12, 40, 100, 700, 1500}[g.Intn(6)]
		base := []uint32{0, 5, 4096, 1<<30 - 700, math.MaxUint32 - 4000}[g.Intn(5)]
		f(some(g, base, span), base+uint32(g.Intn(int(span)+600)), g)
	}
}

// P9.2 for any versions.
func TestModel(t *testing.T) {
	runs(func(l []stamp, now uint32, g *rand.Rand) {
		for _, p := range policies() {
			as(t, p, l, now)
		}
	})
}

// P9.2 for one and two versions with each pair of ages up to 600.
func TestPairs(t *testing.T) {
	for older := range uint32(600) {
		as(t, staggered, at(700-older), 700)
		for newer := range older + 1 {
			as(t, staggered, at(700-older, 700-newer), 700)
		}
	}
}

// P9.3: what is kept at a tick was kept at each tick before that.
func TestKeptBefore(t *testing.T) {
	runs(func(l []stamp, now uint32, g *rand.Rand) {
		for _, p := range policies() {
			then := now + uint32(g.Intn(600))
			early := keep.Keep(p, l, now)
			for i, is := range keep.Keep(p, l, then) {
				equal(t, fmt.Sprint(p, " keeps at ", then, ", but not at ", now, ": ", l[i]), is && !early[i], false)
			}
		}
	})
}

// P9.3: what is kept of those that were kept earlier is what is kept of all.
func TestKeptOfKept(t *testing.T) {
	runs(func(l []stamp, now uint32, g *rand.Rand) {
		for _, p := range policies() {
			left, then := l, now
			for range 5 {
				left = keep.Kept(p, left, then)
				list(t, fmt.Sprint("Kept of ", p, " for ", l, " step by step to ", then), left, keep.Kept(p, l, then))
				then += uint32(g.Intn(90))
			}
		}
	})
}

// P9.4: Staggered keeps the newest one of those with ages below 512.
func TestNewestStays(t *testing.T) {
	runs(func(l []stamp, now uint32, g *rand.Rand) {
		var top []stamp
		for _, s := range l {
			if keep.Age(s, now) < 512 && (len(top) == 0 || keep.Newer(s, top[0])) {
				top = []stamp{s}
			}
		}
		for _, s := range top {
			equal(t, fmt.Sprint("of ", l, " the newest one is kept at ", now), slices.Contains(keep.Kept(staggered, l, now), s), true)
		}
	})
}

// P9.4: no two that are kept are in the same bucket, unless they are young, or equal.
func TestApart(t *testing.T) {
	runs(func(l []stamp, now uint32, g *rand.Rand) {
		kept := keep.Kept(staggered, l, now)
		for _, a := range kept {
			for _, b := range kept {
				if a == b {
					continue
				}
				young := min(keep.Age(a, now), keep.Age(b, now))
				equal(t, fmt.Sprint(a, b, " in a bucket of 8 at ", now), young >= 8 && a.Tick/8 == b.Tick/8, false)
				equal(t, fmt.Sprint(a, b, " in a bucket of 64 at ", now), young >= 64 && a.Tick/64 == b.Tick/64, false)
			}
		}
	})
}

// P9.5: a version that is added at now removes none.
func TestAdded(t *testing.T) {
	runs(func(l []stamp, now uint32, g *rand.Rand) {
		l = slices.DeleteFunc(l, func(s stamp) bool { return s.Tick > now })
		for _, p := range policies() {
			for _, id := range []uint32{0, 7, 100} {
				want := append(keep.Kept(p, l, now), stamp{ID: id, Tick: now})
				more := append(slices.Clone(l), stamp{ID: id, Tick: now})
				list(t, fmt.Sprint("Kept of ", p, " for ", more, " now ", now), keep.Kept(p, more, now), want)
			}
		}
	})
}

// The order of the list counts for the order of the results alone.
func TestOrder(t *testing.T) {
	runs(func(l []stamp, now uint32, g *rand.Rand) {
		for _, p := range policies() {
			kept := map[stamp]bool{}
			for i, is := range keep.Keep(p, l, now) {
				kept[l[i]] = is
			}
			other := slices.Clone(l)
			g.Shuffle(len(other), func(i, j int) { other[i], other[j] = other[j], other[i] })
			for i, is := range keep.Keep(p, other, now) {
				equal(t, fmt.Sprint("Keep of ", p, " for ", other[i]), is, kept[other[i]])
			}
		}
	})
}

// No argument is changed, not even behind the end of a list, and no result shares memory with one.
func TestNewMemory(t *testing.T) {
	runs(func(l []stamp, now uint32, g *rand.Rand) {
		room := append(slices.Clone(l), stamp{1, 2}, stamp{3, 4})
		before := slices.Clone(room)
		for _, p := range policies() {
			kept := keep.Kept(p, room[:len(l)], now)
			again := slices.Clone(kept)
			clear(keep.Kept(p, room[:len(l)], now))
			clear(keep.Keep(p, room[:len(l)], now))
			list(t, "what was given", room, before)
			list(t, "an earlier result", kept, again)
			clear(append(kept, stamp{7, 7}))
			clear(kept[:cap(kept)])
			list(t, "what was given", room, before)
		}
	})
}

// Lists that are far longer than those of a path take no time that counts.
func TestLong(t *testing.T) {
	l := make([]stamp, 1<<20)
	for i := range l {
		l[i] = stamp{ID: uint32(i), Tick: uint32(i)}
	}
	now := uint32(len(l) - 1)
	equal(t, "of Staggered", len(keep.Kept(staggered, l, now)), 8+7+7)
	equal(t, "of the trash can", len(keep.Kept(trash(99), l, now)), 100)
	equal(t, "of the trash can with Age 0", len(keep.Kept(trash(0), l, now)), len(l))
}
