package keep_test

import (
	"fmt"
	"math"
	"slices"
	"testing"

	"revert/api"
	"revert/keep"
)

type stamp = keep.Stamp

var staggered = api.Policy{Kind: api.Staggered}

func trash(age uint32) api.Policy { return api.Policy{Kind: api.Trash, Age: age} }

// equal ends the test unless got and want are equal.
func equal[T comparable](t *testing.T, what string, got, want T) {
	t.Helper()
	if got != want {
		t.Fatalf("%s: got %#v, want %#v", what, got, want)
	}
}

// list ends the test unless got and want have the same elements.
func list[T comparable](t *testing.T, what string, got, want []T) {
	t.Helper()
	if !slices.Equal(got, want) {
		t.Fatalf("%s: got %v, want %v", what, got, want)
	}
}

// at returns versions with these ticks, and the IDs 1, 2 and so on.
func at(ticks ...uint32) []stamp {
	var l []stamp
	for i, n := range ticks {
		l = append(l, stamp{ID: uint32(i + 1), Tick: n})
	}
	return l
}

// keeps ends the test unless p keeps those of l for which want has a y, and no others.
func keeps(t *testing.T, p api.Policy, l []stamp, now uint32, want string) {
	t.Helper()
	var is []bool
	var kept []stamp
	for i, c := range want {
		is = append(is, c == 'y')
		if c == 'y' {
			kept = append(kept, l[i])
		}
	}
	list(t, fmt.Sprint("Keep of ", p, " for ", l, " now ", now), keep.Keep(p, l, now), is)
	list(t, fmt.Sprint("Kept of ", p, " for ", l, " now ", now), keep.Kept(p, l, now), kept)
}

// The chapter's examples.
func TestExamples(t *testing.T) {
	keeps(t, trash(5), at(3, 4, 9, 12), 9, "nyyy")
	keeps(t, trash(0), at(3, 4, 9, 12), 9, "yyyy")
	keeps(t, staggered, at(16, 17, 23, 24, 31), 31, "nnyyy")
	keeps(t, staggered, at(16, 17, 23, 24, 31), 40, "nnyny")
	keeps(t, staggered, at(0, 63, 64), 127, "nyy")
	keeps(t, staggered, at(0, 63, 64), 575, "nny")
	equal(t, "Check of Kind 2", keep.Check(api.Policy{Kind: 2}), api.ErrForm)
	equal(t, "Check of Staggered with Age 1", keep.Check(api.Policy{Kind: api.Staggered, Age: 1}), api.ErrForm)
	equal(t, "Check of Quota -1", keep.Check(api.Policy{Quota: -1}), api.ErrForm)
}

// P9.1: the tick counts ahead of the ID; no version is newer than itself.
func TestNewer(t *testing.T) {
	sorted := []stamp{{0, 0}, {1, 0}, {2, 0}, {1 << 31, 0}, {math.MaxUint32, 0}, {0, 1}, {5, 1}, {6, 1}, {0, 1 << 31}, {3, math.MaxUint32}, {math.MaxUint32, math.MaxUint32}}
	for i, a := range sorted {
		for j, b := range sorted {
			equal(t, fmt.Sprint(a, " newer than ", b), keep.Newer(a, b), i > j)
		}
	}
}

// P9.1: the age is now minus the tick, and 0 if the tick is above now; the ID has no effect.
func TestAge(t *testing.T) {
	const top = math.MaxUint32
	for _, c := range []struct{ tick, now, want uint32 }{
		{0, 0, 0}, {0, 9, 9}, {3, 9, 6}, {8, 9, 1}, {9, 9, 0}, {10, 9, 0}, {1, 0, 0}, {top, 0, 0}, {top, top - 1, 0},
		{top, top, 0}, {0, top, top}, {1, top, top - 1}, {5, 1 << 30, 1<<30 - 5}, {1, 1<<31 + 1, 1 << 31}, {1 << 31, 1, 0},
	} {
		for _, id := range []uint32{0, 1, 77, top} {
			equal(t, fmt.Sprint("Age of ", c.tick, " now ", c.now), keep.Age(stamp{id, c.tick}, c.now), c.want)
		}
	}
}

// P9.1: what policies are valid.
func TestCheck(t *testing.T) {
	for kind := range 256 {
		for _, age := range []uint32{0, 1, 511, 512, 1<<30 - 1, 1 << 30, 1<<30 + 1, 1 << 31, math.MaxUint32} {
			for _, quota := range []int{math.MinInt, -1 << 20, -1, 0, 1, 1<<20 - 1, 1 << 20, 1<<20 + 1, 1 << 32, math.MaxInt} {
				p := api.Policy{Kind: uint8(kind), Age: age, Quota: quota}
				want := api.ErrForm
				if quota >= 0 && quota <= 1<<20 && (kind == 0 && age <= 1<<30 || kind == 1 && age == 0) {
					want = api.OK
				}
				equal(t, fmt.Sprint("Check of ", p), keep.Check(p), want)
			}
		}
	}
}

// P9.2: the trash can keeps what is at most as old as its Age, and, with the Age 0, everything.
func TestTrash(t *testing.T) {
	const top = math.MaxUint32
	keeps(t, trash(1), at(0, 97, 98, 99, 100, 101, 102, top), 100, "nnnyyyyy")
	keeps(t, trash(99), at(0, 1, 2), 100, "nyy")
	keeps(t, trash(100), at(0, 1, 2), 100, "yyy")
	keeps(t, trash(0), at(0, 1, top), top, "yyy")
	keeps(t, trash(1<<30), at(0, 1, 2), 1<<30+1, "nyy")
	keeps(t, trash(top), at(0, 1, top), top, "yyy")
	keeps(t, trash(top-1), at(0, 1, top), top, "nyy")
	keeps(t, trash(5), []stamp{{4, 9}, {4, 2}, {4, 9}, {4, 2}, {1, 8}}, 9, "ynyny")
}

// P9.2: where one rule of Staggered ends, and the next one begins: at the ages 8, 64 and 512.
func TestStaggeredEdges(t *testing.T) {
	for i, want := range []string{"yy", "yy", "yy", "yy", "yy", "yy", "yy", "yy"} {
		keeps(t, staggered, at(1000, 1000+uint32(i)), 1007, want)
	}
	keeps(t, staggered, at(1000, 1001), 1007, "yy")
	keeps(t, staggered, at(1000, 1001), 1008, "ny")
	keeps(t, staggered, at(1000, 1007), 1008, "ny")
	keeps(t, staggered, at(1000, 1008), 1008, "yy")
	keeps(t, staggered, at(1003, 1007, 1008), 1066, "nyy")
	keeps(t, staggered, at(1003, 1004, 1007), 1067, "nny")
	// The bucket of 64 from 960 to 1023: the age 63 is still judged by the bucket of 8.
	keeps(t, staggered, at(967, 975), 1030, "yy")
	keeps(t, staggered, at(967, 975), 1031, "ny")
	keeps(t, staggered, at(967, 1023), 1031, "ny")
	keeps(t, staggered, at(967, 1024), 1031, "yy")
	keeps(t, staggered, at(967), 967+511, "y")
	keeps(t, staggered, at(967), 967+512, "n")
	keeps(t, staggered, at(0), math.MaxUint32, "n")
	keeps(t, staggered, at(0), 511, "y")
	keeps(t, staggered, at(0), 512, "n")
}

// P9.2: what makes an older version go may itself be younger than the rule is for, and lie anywhere in the list.
func TestStaggeredBuckets(t *testing.T) {
	keeps(t, staggered, at(800, 807), 808, "ny") // ages 8 and 1
	keeps(t, staggered, at(807, 800), 808, "yn")
	keeps(t, staggered, at(960, 1023), 1024, "ny") // ages 64 and 1
	keeps(t, staggered, at(1023, 960), 1024, "yn")
	keeps(t, staggered, at(512, 519, 520, 575, 576), 1023, "nnnyy") // 512 and 575 are of one bucket of 64
	keeps(t, staggered, at(512, 575), 1025, "ny")                   // the first one is too old now
	const top = math.MaxUint32
	keeps(t, staggered, at(top-15, top-8, top-7, top), top, "nyyy")
}

// P9.2: with equal ticks the greater ID is newer; versions that are equal are kept together.
func TestEqualTicks(t *testing.T) {
	keeps(t, staggered, []stamp{{1, 50}, {3, 50}, {2, 50}}, 58, "nyn")
	keeps(t, staggered, []stamp{{1, 50}, {3, 50}, {2, 50}}, 57, "yyy")
	keeps(t, staggered, []stamp{{1, 50}, {3, 50}, {2, 50}}, 120, "nyn")
	keeps(t, staggered, []stamp{{3, 50}, {2, 50}, {3, 50}}, 58, "yny")
	keeps(t, staggered, []stamp{{9, 50}, {1, 51}}, 60, "ny")
	keeps(t, staggered, []stamp{{0, 0}, {0, 0}}, 8, "yy")
	keeps(t, staggered, []stamp{{0, 0}, {1, 0}}, 8, "ny")
	keeps(t, staggered, []stamp{{0, 64}, {0, 0}, {0, 64}}, 200, "yyy")
	keeps(t, trash(5), []stamp{{1, 50}, {3, 50}, {1, 50}}, 55, "yyy")
	keeps(t, trash(5), []stamp{{1, 50}, {3, 50}, {1, 50}}, 56, "nnn")
}

// P9.2: versions with ticks above now are kept.
func TestAboveNow(t *testing.T) {
	const top = math.MaxUint32
	keeps(t, staggered, at(1, 9, 10, 11, 500, top, top-1), 10, "yyyyyyy")
	keeps(t, staggered, at(0, 1, 8), 0, "yyy")
	keeps(t, trash(1), at(8, 9, 10, 11, 500, top), 10, "nyyyyy")
}

// P9.2: the Quota has no effect, nor has the Age on Staggered, whether they are valid or not.
func TestNoEffect(t *testing.T) {
	l := at(0, 3, 16, 17, 23, 24, 31, 90)
	for _, quota := range []int{math.MinInt, -1, 0, 1, 1 << 20, math.MaxInt} {
		keeps(t, api.Policy{Kind: api.Trash, Age: 17, Quota: quota}, l, 40, "nnnnyyyy")
		keeps(t, api.Policy{Kind: api.Trash, Quota: quota}, l, 40, "yyyyyyyy")
		for _, age := range []uint32{0, 1, 17, 600, math.MaxUint32} {
			keeps(t, api.Policy{Kind: api.Staggered, Age: age, Quota: quota}, l, 40, "nynnynyy")
		}
	}
}

// P9.2: with a Kind that is not valid all are kept.
func TestNoKind(t *testing.T) {
	for kind := 2; kind < 256; kind++ {
		for _, age := range []uint32{0, 1, 512, math.MaxUint32} {
			p := api.Policy{Kind: uint8(kind), Age: age}
			keeps(t, p, at(0, 1, 2, 900, math.MaxUint32), math.MaxUint32, "yyyyy")
			keeps(t, p, at(0, 1, 2, 900, math.MaxUint32), 70, "yyyyy")
		}
	}
}

// P9.2: of no versions none is kept.
func TestNone(t *testing.T) {
	for kind := range 4 {
		for _, l := range [][]stamp{nil, {}} {
			keeps(t, api.Policy{Kind: uint8(kind), Age: 3}, l, 9, "")
		}
	}
}
