package quota_test

import (
	"fmt"
	"math/rand"
	"slices"
	"strings"
	"testing"

	"revert/quota"
)

// placed is an item, and its place in the list.
type placed struct {
	item
	at int
}

// older reports whether x is older than y.
func (x placed) older(y placed) bool {
	if x.Tick != y.Tick {
		return x.Tick < y.Tick
	}
	return x.ID < y.ID || x.ID == y.ID && x.at < y.at
}

// newest reports whether x is the newest one of its path.
func (x placed) newest(l []placed) bool {
	return !slices.ContainsFunc(l, func(y placed) bool { return y.Path == x.Path && x.older(y) })
}

// bytes is the sum of the sizes.
func bytes(l []placed) int {
	n := 0
	for _, x := range l {
		if x.Size > 65536 {
			n += 65536
		} else if x.Size > 0 {
			n += x.Size
		}
	}
	return n
}

// inPlace returns the items of l with their places.
func inPlace(l []item) []placed {
	all := make([]placed, len(l))
	for i, x := range l {
		all[i] = placed{x, i}
	}
	return all
}

// model removes items one by one, word by word as the chapter defines it.
func model(l []item, q int) (gone, left []placed, ok bool) {
	left = inPlace(l)
	for bytes(left) > q {
		oldest := -1
		for i, x := range left {
			if !x.newest(left) && (oldest < 0 || x.older(left[oldest])) {
				oldest = i
			}
		}
		if oldest < 0 {
			return nil, inPlace(l), false
		}
		gone = append(gone, left[oldest])
		left = slices.Delete(left, oldest, oldest+1)
	}
	return gone, left, true
}

// ids tells what was removed as told does.
func ids(gone []placed, ok bool) string {
	if !ok {
		return refuse
	}
	var l []uint32
	for _, x := range gone {
		l = append(l, x.ID)
	}
	return strings.Trim(fmt.Sprint(l), "[]")
}

// some returns up to 14 items, with IDs that are all different if they are to be.
func some(g *rand.Rand, different bool) []item {
	l := make([]item, g.Intn(15))
	paths, ticks, size := 1+g.Intn(5), 1+g.Intn(20), []int{1, 4, 300, 90000}[g.Intn(4)]
	order := g.Perm(len(l))
	for i := range l {
		l[i] = item{string(rune('a' + g.Intn(paths))), uint32(g.Intn(6)), uint32(g.Intn(ticks)), g.Intn(size+size/8+1) - size/8}
		if different {
			l[i].ID = uint32(order[i])
		}
	}
	return l
}

// quotas returns those of which each one has another result, and some beside them.
func quotas(l []item) []int {
	all := []int{-1, 0, 1}
	left := bytes(inPlace(l))
	all = append(all, left-1, left, left+1)
	for left > 0 {
		gone, rest, ok := model(l, left-1)
		if !ok || len(gone) == 0 {
			break
		}
		left = bytes(rest)
		all = append(all, left-1, left, left+1)
	}
	slices.Sort(all)
	return slices.Compact(all)
}

// runs calls f with many lists.
func runs(different bool, f func(l []item, g *rand.Rand)) {
	g := rand.New(rand.NewSource(10))
	for range 3000 {
		f(some(g, different), g)
	}
}

// P10.1 and P10.2 for any items.
func TestModel(t *testing.T) {
	for _, different := range []bool{false, true} {
		runs(different, func(l []item, g *rand.Rand) {
			sums(t, l, bytes(inPlace(l)))
			for _, q := range quotas(l) {
				gone, _, ok := model(l, q)
				prunes(t, l, q, ids(gone, ok))
			}
		})
	}
}

// P10.2 for all lists of up to 3 items with few values, and for all quotas that make a difference.
func TestAllSmall(t *testing.T) {
	var kinds []item
	for n := range 24 {
		kinds = append(kinds, item{string(rune('a' + n%2)), uint32(n / 2 % 2), uint32(n / 4 % 2), n / 8})
	}
	var grow func(l []item)
	grow = func(l []item) {
		for q := -1; q <= 2*len(l); q++ {
			gone, _, ok := model(l, q)
			prunes(t, l, q, ids(gone, ok))
		}
		if len(l) < 3 {
			for _, x := range kinds {
				grow(append(slices.Clone(l), x))
			}
		}
	}
	grow(nil)
}

// parted returns the items of l that Prune removes, and the others; their IDs must all be different.
func parted(l []item, q int) (gone, left []placed, ok bool) {
	list, ok := quota.Prune(l, q)
	for _, x := range inPlace(l) {
		if slices.Contains(list, x.ID) {
			gone = append(gone, x)
		} else {
			left = append(left, x)
		}
	}
	slices.SortFunc(gone, func(a, b placed) int { return slices.Index(list, a.ID) - slices.Index(list, b.ID) })
	return gone, left, ok
}

// newestOnes returns the newest item of each path.
func newestOnes(l []item) []placed {
	all := inPlace(l)
	return slices.DeleteFunc(slices.Clone(all), func(x placed) bool { return !x.newest(all) })
}

// P10.3: what remains is at most the quota, and would not be with the last item that was removed; it is false if the newest ones alone are above it.
func TestEnough(t *testing.T) {
	runs(true, func(l []item, g *rand.Rand) {
		for _, q := range quotas(l) {
			what := fmt.Sprint(l, " with ", q)
			gone, left, ok := parted(l, q)
			if ok != (bytes(newestOnes(l)) <= q) {
				t.Fatalf("%s: %t, and the newest ones are %d", what, ok, bytes(newestOnes(l)))
			}
			if ok && bytes(left) > q {
				t.Fatalf("%s: %d remain", what, bytes(left))
			}
			if len(gone) > 0 && bytes(append(left, gone[len(gone)-1])) <= q {
				t.Fatalf("%s: %v need not go", what, gone[len(gone)-1])
			}
		}
	})
}

// P10.3: what is removed is older than what remains, but for the newest ones of paths, which remain; it is told in order.
func TestOldestGo(t *testing.T) {
	runs(true, func(l []item, g *rand.Rand) {
		for _, q := range quotas(l) {
			what := fmt.Sprint(l, " with ", q)
			gone, left, _ := parted(l, q)
			for i, x := range gone {
				if x.newest(inPlace(l)) {
					t.Fatalf("%s: %v is the newest one, but goes", what, x)
				}
				if i > 0 && !gone[i-1].older(x) {
					t.Fatalf("%s: %v goes ahead of %v", what, gone[i-1], x)
				}
				for _, y := range left {
					if !x.older(y) && !y.newest(inPlace(l)) {
						t.Fatalf("%s: %v goes, but not %v", what, x, y)
					}
				}
			}
		}
	})
}

// P10.4: with a greater quota the first ones of these items are removed, or none.
func TestGreaterQuota(t *testing.T) {
	for _, different := range []bool{false, true} {
		runs(different, func(l []item, g *rand.Rand) {
			var last []uint32
			was := false
			for _, q := range quotas(l) {
				gone, ok := quota.Prune(l, q)
				if was && !ok || was && (len(gone) > len(last) || !slices.Equal(gone, last[:len(gone)])) {
					t.Fatalf("%v with %d: %v, %t, but %v with less", l, q, gone, ok, last)
				}
				last, was = gone, ok
			}
		})
	}
}

// P10.4: of what remains nothing is removed.
func TestRepeated(t *testing.T) {
	runs(true, func(l []item, g *rand.Rand) {
		for _, q := range quotas(l) {
			_, left, ok := parted(l, q)
			var rest []item
			for _, x := range left {
				rest = append(rest, x.item)
			}
			want := ""
			if !ok {
				want = refuse
			}
			prunes(t, rest, q, want)
		}
	})
}

// The order of the list has no effect on items of which no two have the same tick and ID.
func TestShuffled(t *testing.T) {
	runs(true, func(l []item, g *rand.Rand) {
		other := slices.Clone(l)
		g.Shuffle(len(other), func(i, j int) { other[i], other[j] = other[j], other[i] })
		sums(t, other, quota.Sum(l))
		for _, q := range quotas(l) {
			prunes(t, other, q, told(t, l, q))
		}
	})
}

// P10.4: no argument is changed, not even behind the end of a list, and no result shares memory with another one.
func TestNothingChanged(t *testing.T) {
	runs(false, func(l []item, g *rand.Rand) {
		room := append(slices.Clone(l), item{"x", 1, 2, 3}, item{"y", 4, 5, 6})
		before := slices.Clone(room)
		for _, q := range quotas(l) {
			gone, _ := quota.Prune(room[:len(l)], q)
			again := slices.Clone(gone)
			other, _ := quota.Prune(room[:len(l)], q)
			clear(other[:cap(other)])
			quota.Sum(room[:len(l)])
			if !slices.Equal(room, before) || !slices.Equal(gone, again) {
				t.Fatalf("Prune of %v with %d: changed", l, q)
			}
		}
	})
}

// Lists that are far longer than those of a replica take no time that counts.
func TestLong(t *testing.T) {
	l := make([]item, 1<<19)
	for i := range l {
		l[i] = item{fmt.Sprint(i % 70000), uint32(i), uint32(len(l) - i), 1}
	}
	gone, ok := quota.Prune(l, 70000)
	if len(gone) != len(l)-70000 || !ok {
		t.Fatalf("of 70000 paths: %d, %t", len(gone), ok)
	}
	if gone, ok = quota.Prune(l, 69999); len(gone) != 0 || ok {
		t.Fatalf("of 70000 paths with less: %d, %t", len(gone), ok)
	}
}
