package quota_test

import (
	"fmt"
	"math"
	"slices"
	"strings"
	"testing"

	"revert/quota"
)

type item = quota.Item

const (
	top    = math.MaxUint32
	refuse = "no" // what is told of a Prune that returns false
)

// told returns what Prune of l returns, as a text: the IDs, or that it refuses.
func told(t *testing.T, l []item, q int) string {
	t.Helper()
	gone, ok := quota.Prune(l, q)
	if !ok && len(gone) > 0 {
		t.Fatalf("Prune of %v with %d: IDs %v together with false", l, q, gone)
	}
	if !ok {
		return refuse
	}
	return strings.Trim(fmt.Sprint(gone), "[]")
}

// prunes ends the test unless Prune of l with q is told as want.
func prunes(t *testing.T, l []item, q int, want string) {
	t.Helper()
	if got := told(t, l, q); got != want {
		t.Fatalf("Prune of %v with %d: got %q, want %q", l, q, got, want)
	}
}

// sums ends the test unless the Sum of l is want.
func sums(t *testing.T, l []item, want int) {
	t.Helper()
	if got := quota.Sum(l); got != want {
		t.Fatalf("Sum of %v: got %d, want %d", l, got, want)
	}
}

// The chapter's examples.
func TestExamples(t *testing.T) {
	l := []item{{"a", 1, 0, 5}, {"b", 2, 1, 5}, {"a", 3, 2, 5}, {"a", 4, 3, 5}}
	prunes(t, l, 20, "")
	prunes(t, l, 19, "1")
	prunes(t, l, 10, "1 3")
	prunes(t, l, 9, refuse)
	prunes(t, []item{{"a", 2, 0, 5}, {"a", 1, 0, 5}}, 5, "1")
	prunes(t, []item{{"a", 1, 0, 5}, {"a", 1, 0, 6}}, 6, "1")
	prunes(t, nil, 0, "")
	prunes(t, nil, -1, refuse)
	prunes(t, []item{{"a", 1, 0, -5}}, 0, "")
	sums(t, []item{{"a", 1, 0, -5}, {"a", 2, 0, 99999}, {"a", 3, 0, 4}}, 65540)
}

// sizes holds sizes against what they count for.
func sizes() [][2]int {
	return [][2]int{{0, 0}, {1, 1}, {2, 2}, {256, 256}, {65535, 65535}, {65536, 65536}, {65537, 65536}, {1 << 31, 65536}, {math.MaxInt, 65536},
		{-1, 0}, {-65536, 0}, {math.MinInt32, 0}, {math.MinInt, 0}}
}

// P10.1: what each size counts for, alone and beside others.
func TestSum(t *testing.T) {
	sums(t, nil, 0)
	sums(t, []item{}, 0)
	var all []item
	n := 0
	for _, s := range sizes() {
		sums(t, []item{{Size: s[0]}}, s[1])
		sums(t, []item{{Size: 7}, {Size: s[0]}, {Size: 30}}, 37+s[1])
		all = append(all, item{Size: s[0]})
		n += s[1]
		sums(t, all, n)
	}
}

// P10.1: paths, IDs and ticks have no effect, and items that are alike count each.
func TestSumOfAll(t *testing.T) {
	for _, p := range []string{"", "a", "/d/f", "\xff\x00"} {
		for _, n := range []uint32{0, 1, top} {
			x := item{p, n, top - n, 9}
			sums(t, []item{x, x, {Path: "a", ID: 1, Size: 1}, x}, 28)
		}
	}
}

// P10.1: the sum of a long list is above 32 bits.
func TestSumOfMany(t *testing.T) {
	l := make([]item, 1<<17)
	for i := range l {
		l[i].Size = 1 << 30
	}
	if got := quota.Sum(l); got != 1<<33 {
		t.Fatalf("Sum of %d items: %d", len(l), got)
	}
	gone, ok := quota.Prune(l, 1<<32)
	if len(gone) != 1<<16 || !ok {
		t.Fatalf("Prune of %d items: %d, %t", len(l), len(gone), ok)
	}
}

// P10.2: the sizes count in Prune as they do in Sum, both for what is there and for what is removed.
func TestPruneSizes(t *testing.T) {
	for _, s := range sizes() {
		l := []item{{"a", 1, 0, s[0]}, {"a", 2, 1, 3}, {"a", 3, 2, s[0]}}
		prunes(t, l, 2*s[1]+3, "")
		prunes(t, l, s[1]+2, "1 2")
		prunes(t, l, s[1], "1 2")
		prunes(t, l, s[1]-1, refuse)
		if s[1] > 0 {
			prunes(t, l, 2*s[1]+2, "1")
			prunes(t, l, s[1]+3, "1")
		}
	}
}

// P10.2: the tick counts ahead of the ID, the ID ahead of the place in the list.
func TestOrder(t *testing.T) {
	l := []item{{"a", 0, 9, 1}, {"a", 7, 3, 1}, {"b", 5, 3, 1}, {"a", 6, 3, 1}, {"b", top, 0, 1}, {"a", 1, 1 << 31, 1}, {"b", 2, 9, 1}}
	prunes(t, l, 6, "4294967295")
	prunes(t, l, 5, "4294967295 5")
	prunes(t, l, 4, "4294967295 5 6")
	prunes(t, l, 3, "4294967295 5 6 7")
	prunes(t, l, 2, "4294967295 5 6 7 0")
	prunes(t, l, 1, refuse)
	slices.Reverse(l)
	prunes(t, l, 2, "4294967295 5 6 7 0")
	prunes(t, []item{{"a", 1, top, 1}, {"a", 2, top - 1, 1}, {"a", top, 0, 1}}, 1, "4294967295 2")
	prunes(t, []item{{"a", 1 << 31, 4, 1}, {"a", 1<<31 - 1, 4, 1}, {"a", top, 4, 1}}, 1, "2147483647 2147483648")
}

// P10.2: of items with the same tick and ID the first one in the list is the oldest.
func TestAlike(t *testing.T) {
	prunes(t, []item{{"a", 1, 0, 6}, {"a", 1, 0, 5}}, 5, "1")
	prunes(t, []item{{"a", 1, 0, 6}, {"a", 1, 0, 5}}, 4, refuse)
	prunes(t, []item{{"a", 1, 0, 5}, {"a", 1, 0, 6}}, 5, refuse)
	prunes(t, []item{{"a", 1, 0, 5}, {"a", 1, 0, 7}, {"a", 1, 0, 6}}, 6, "1 1")
	prunes(t, []item{{"a", 1, 0, 5}, {"a", 1, 0, 7}, {"a", 1, 0, 6}}, 13, "1")
	prunes(t, []item{{"a", 1, 0, 1}, {"b", 1, 0, 2}, {"b", 1, 0, 4}, {"a", 1, 0, 8}, {"c", 1, 0, 16}}, 30, "1")
	prunes(t, []item{{"a", 1, 0, 1}, {"b", 1, 0, 2}, {"b", 1, 0, 4}, {"a", 1, 0, 8}, {"c", 1, 0, 16}}, 28, "1 1")
	// A long list, of three paths in turn, each with a tick of its own: the last item of a path is its newest one.
	var l []item
	for i := range 99 {
		l = append(l, item{string(rune('a' + i%3)), 1, uint32(2 - i%3), 1 + i/96*999})
	}
	prunes(t, l, 3095, "1")
	prunes(t, l, 3000, strings.Repeat(" 1", 96)[1:])
	prunes(t, l, 2999, refuse)
}

// P10.2: the newest item of each path stays, however old it is, whatever stands around it.
func TestNewestStay(t *testing.T) {
	l := []item{{"b", 9, 0, 10}, {"a", 8, 1, 1}, {"", 7, 2, 1}, {"a", 6, 3, 1}, {"", 5, 4, 1}, {"a", 4, 5, 1}, {"c", 3, 6, 20}}
	prunes(t, l, 35, "")
	prunes(t, l, 34, "8")
	prunes(t, l, 33, "8 7")
	prunes(t, l, 32, "8 7 6")
	prunes(t, l, 31, refuse)
	prunes(t, []item{{"a", 1, 0, 1}, {"A", 2, 0, 1}, {"a\x00", 3, 0, 1}, {"/a", 4, 0, 1}, {"\xff", 5, 0, 1}}, 5, "")
	prunes(t, []item{{"a", 1, 0, 1}, {"A", 2, 0, 1}, {"a\x00", 3, 0, 1}, {"/a", 4, 0, 1}, {"\xff", 5, 0, 1}}, 4, refuse)
}

// P10.2: items without bytes are removed, too, when it is their turn, but none after the sum is at most the quota.
func TestWithoutBytes(t *testing.T) {
	l := []item{{"a", 1, 0, 0}, {"a", 2, 1, -3}, {"a", 3, 2, 5}, {"a", 4, 3, 0}, {"a", 5, 4, 1}}
	prunes(t, l, 6, "")
	prunes(t, l, 5, "1 2 3")
	prunes(t, l, 1, "1 2 3")
	prunes(t, l, 0, refuse)
	prunes(t, []item{{"a", 1, 0, 0}, {"a", 2, 0, 0}}, 0, "")
	prunes(t, []item{{"a", 1, 0, 0}, {"a", 2, 0, 0}}, -1, refuse)
}

// P10.2: with a quota below 0 nothing is enough, with a great one nothing is removed.
func TestQuotas(t *testing.T) {
	for _, l := range [][]item{nil, {}, {{}}, {{}, {}}, {{Size: -1}}, {{"a", 1, 0, 5}, {"a", 2, 1, 0}}, {{"a", 1, 0, math.MaxInt}, {"a", 2, 0, math.MinInt}}} {
		for _, q := range []int{math.MinInt, -1 << 33, math.MinInt32, -65536, -1} {
			prunes(t, l, q, refuse)
		}
		for _, q := range []int{65536, 1 << 20, math.MaxInt32, 1 << 33, math.MaxInt} {
			prunes(t, l, q, "")
		}
	}
}
