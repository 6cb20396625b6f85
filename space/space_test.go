package space_test

import (
	"fmt"
	"math"
	"slices"
	"testing"

	"revert/api"
	"revert/space"
)

// same ends the test unless got and want are equal.
func same[T comparable](t *testing.T, what string, got, want T) {
	t.Helper()
	if got != want {
		t.Fatalf("%s: got %v, want %v", what, got, want)
	}
}

// alike ends the test unless got and want have the same items, in the same order.
func alike[T comparable](t *testing.T, what string, got, want []T) {
	t.Helper()
	if !slices.Equal(got, want) {
		t.Fatalf("%s: got %v, want %v", what, got, want)
	}
}

// far are numbers that are no block of any space.
var far = []int{math.MinInt, math.MinInt32, -1 << 32, -2049, -257, -256, -64, -2, -1, 2048, 2049, 4096, math.MaxInt32, 1 << 32, 1<<32 + 7, math.MaxInt}

// fresh returns a space of the blocks from from to n - 1, all of them free.
func fresh(t *testing.T, from, n int) *space.Space {
	t.Helper()
	s := space.New(from, n)
	if s == nil {
		t.Fatalf("New(%d, %d): nil", from, n)
	}
	return s
}

// loaded returns a space of the blocks from from to n - 1, of which these are used.
func loaded(t *testing.T, from, n int, used ...int) *space.Space {
	t.Helper()
	s, e := space.Load(from, n, used)
	what := fmt.Sprint("Load of ", from, ", ", n, ", ", used)
	same(t, "error of "+what, e, api.OK)
	same(t, what+" is nil", s == nil, false)
	return s
}

// takes ends the test unless Take returns these blocks, one after the other.
func takes(t *testing.T, s *space.Space, want ...int) {
	t.Helper()
	for _, at := range want {
		k, e := s.Take()
		same(t, fmt.Sprint("error of Take of ", at), e, api.OK)
		same(t, "Take", k, at)
	}
}

// isFull ends the test unless Take returns that no block is free.
func isFull(t *testing.T, s *space.Space) {
	t.Helper()
	k, e := s.Take()
	same(t, "error of Take", e, api.ErrFull)
	same(t, "Take", k, 0)
}

// to returns the numbers from from to n - 1, except for these.
func to(from, n int, except ...int) []int {
	var l []int
	for at := from; at < n; at++ {
		if !slices.Contains(except, at) {
			l = append(l, at)
		}
	}
	return l
}

// shows ends the test unless these blocks are free, and no others; it asks in each way that there is.
func shows(t *testing.T, what string, s *space.Space, free []int) {
	t.Helper()
	alike(t, what+": All", slices.Collect(s.All()), free)
	same(t, what+": Count", s.Count(), len(free))
	is := map[int]bool{}
	for _, at := range free {
		is[at] = true
	}
	for at := -300; at < 2400; at++ {
		same(t, fmt.Sprint(what, ": Free of ", at), s.Free(at), is[at])
	}
	for _, at := range far {
		same(t, fmt.Sprint(what, ": Free of ", at), s.Free(at), false)
	}
}

// The chapter's examples.
func TestExamples(t *testing.T) {
	s := fresh(t, 100, 200)
	same(t, "Count", s.Count(), 100)
	takes(t, s, 100, 101)
	same(t, "Use(103)", s.Use(103), api.OK)
	takes(t, s, 102, 104)
	same(t, "Use(103), again", s.Use(103), api.ErrThere)
	same(t, "Give(101)", s.Give(101), api.OK)
	same(t, "Give(101), again", s.Give(101), api.ErrNone)
	same(t, "Give(99)", s.Give(99), api.ErrArg)
	takes(t, s, 101)

	s = loaded(t, 0, 256, 5, 7)
	same(t, "Count", s.Count(), 254)
	same(t, "Free(5)", s.Free(5), false)
	same(t, "Free(6)", s.Free(6), true)
	for _, c := range []struct {
		from, n int
		used    []int
		e       api.Errno
	}{{0, 256, []int{5, 5}, api.ErrForm}, {0, 256, []int{256}, api.ErrForm}, {5, 5, nil, api.ErrArg}} {
		s, e := space.Load(c.from, c.n, c.used)
		same(t, fmt.Sprint("error of Load of ", c), e, c.e)
		same(t, fmt.Sprint("Load of ", c), s, nil)
	}
	same(t, "New(0, 2049)", space.New(0, 2049), nil)
	same(t, "New(-1, 5)", space.New(-1, 5), nil)
}

// P15.1: which blocks there may be: each first one, with each number around those that are allowed.
func TestNew(t *testing.T) {
	ends := append([]int{-1, 0, 1, 2, 63, 64, 65, 255, 256, 257, 1024, 2046, 2047, 2048, 2049, 2050}, far...)
	for from := -3; from < 2052; from++ {
		for _, n := range append(ends, from-1, from, from+1) {
			what := fmt.Sprint("New of ", from, ", ", n, " is nil")
			same(t, what, space.New(from, n) == nil, from < 0 || from >= n || n > 2048)
		}
	}
	for _, from := range []int{math.MinInt, math.MinInt32, -2048, 2048, 1 << 32, math.MaxInt} {
		for _, n := range ends {
			same(t, fmt.Sprint("New of ", from, ", ", n), space.New(from, n), nil)
		}
	}
}

// spans are first blocks, and numbers behind the last one: around the ends of words, and the least and the greatest ones.
var spans = [][2]int{{0, 1}, {0, 64}, {0, 65}, {0, 256}, {0, 257}, {0, 2048}, {1, 2}, {3, 60}, {63, 64}, {63, 65}, {64, 128}, {100, 200}, {128, 256},
	{255, 257}, {256, 512}, {500, 1000}, {512, 513}, {1023, 2047}, {1024, 2048}, {2047, 2048}}

// P15.1: all managed blocks of a new space are free, and no others.
func TestNewFree(t *testing.T) {
	for _, x := range spans {
		shows(t, fmt.Sprint("New of ", x), fresh(t, x[0], x[1]), to(x[0], x[1]))
	}
}

// P15.1: each space has blocks of its own.
func TestNewTwice(t *testing.T) {
	a, b := fresh(t, 5, 70), fresh(t, 5, 70)
	takes(t, a, 5)
	same(t, "Use", a.Use(69), api.OK)
	shows(t, "the other space", b, to(5, 70))
}

// P15.1: Load of each single block, of none and of all, in any order.
func TestLoad(t *testing.T) {
	for _, x := range spans {
		from, n := x[0], x[1]
		all := to(from, n)
		shows(t, "none are used", loaded(t, from, n), all)
		shows(t, "all are used", loaded(t, from, n, all...), nil)
		slices.Reverse(all)
		shows(t, "all are used, from the last one on", loaded(t, from, n, all...), nil)
		for _, at := range []int{from, (from + n) / 2, n - 1} {
			shows(t, fmt.Sprint(at, " is used"), loaded(t, from, n, at), to(from, n, at))
		}
	}
	shows(t, "some are used", loaded(t, 60, 300, 256, 64, 63, 299, 60, 255), to(60, 300, 60, 63, 64, 255, 256, 299))
}

// P15.1: a Load of blocks that are not managed, or occur twice, at any place of the list.
func TestLoadForm(t *testing.T) {
	for _, x := range spans {
		from, n := x[0], x[1]
		wrong := append([]int{from - 1, n, n + 1, n + 63, n + 64, n + 256}, far...)
		if from > 0 {
			wrong = append(wrong, 0, from/2)
		}
		for _, at := range wrong {
			for _, used := range [][]int{{at}, {at, from}, {from, at}, {at, at}} {
				s, e := space.Load(from, n, used)
				same(t, fmt.Sprint("error of Load of ", x, ", ", used), e, api.ErrForm)
				same(t, fmt.Sprint("Load of ", x, ", ", used), s, nil)
			}
		}
		for _, at := range []int{from, (from + n) / 2, n - 1} {
			s, e := space.Load(from, n, append(to(from, n), at))
			same(t, fmt.Sprint("error of Load of ", x, ", all, and ", at), e, api.ErrForm)
			same(t, fmt.Sprint("Load of ", x, ", all, and ", at), s, nil)
		}
	}
	for _, used := range [][]int{{5, 6, 5}, {6, 5, 5}, {5, 5, 6}, {5, 6, 7, 6, 5}, {255, 0, 255}} {
		s, e := space.Load(0, 256, used)
		same(t, fmt.Sprint("error of Load of ", used), e, api.ErrForm)
		same(t, fmt.Sprint("Load of ", used), s, nil)
	}
}

// P15.1: where there is no New, Load returns ErrArg, ahead of ErrForm.
func TestLoadArg(t *testing.T) {
	for _, x := range [][2]int{{-1, 5}, {0, 0}, {5, 5}, {6, 5}, {0, 2049}, {2048, 2048}, {2048, 2049}, {math.MinInt, math.MaxInt}, {math.MaxInt, math.MinInt}, {0, 1<<32 + 5}} {
		for _, used := range [][]int{nil, {}, {0}, {5}, {5, 5}, {-1}, {math.MaxInt}} {
			s, e := space.Load(x[0], x[1], used)
			same(t, fmt.Sprint("error of Load of ", x, ", ", used), e, api.ErrArg)
			same(t, fmt.Sprint("Load of ", x, ", ", used), s, nil)
		}
	}
}

// P15.1: Load neither changes nor keeps the list of used blocks.
func TestLoadList(t *testing.T) {
	used := []int{9, 3, 200}
	s := loaded(t, 0, 256, used...)
	alike(t, "the list", used, []int{9, 3, 200})
	free := to(0, 256, 3, 9, 200)
	clear(used)
	shows(t, "the list was cleared", s, free)
	takes(t, s, 0, 1, 2, 4)
	alike(t, "the list", used, []int{0, 0, 0})
}

// answersNil ends the test unless s answers as a space that there isn't.
func answersNil(t *testing.T, what string, s *space.Space) {
	t.Helper()
	for _, at := range append(to(-2, 260), far...) {
		same(t, what+": Use", s.Use(at), api.ErrNil)
		same(t, what+": Give", s.Give(at), api.ErrNil)
		same(t, what+": Free", s.Free(at), false)
	}
	k, e := s.Take()
	same(t, what+": Take", k, 0)
	same(t, what+": error of Take", e, api.ErrNil)
	same(t, what+": Count", s.Count(), 0)
	same(t, what+": Copy", s.Copy(), nil)
	same(t, what+": there is an All", s.All() != nil, true)
	for at := range s.All() {
		t.Fatalf("%s: All has %d", what, at)
	}
	s.All()(nil)
}

// P15.1: nil, and spaces that neither New, Load nor Copy returned.
func TestNotMade(t *testing.T) {
	answersNil(t, "nil", nil)
	answersNil(t, "a zero value", &space.Space{})
	answersNil(t, "a new one", new(space.Space))
	none, _ := space.Load(0, 256, []int{256})
	answersNil(t, "a Load with an error", none)
	for _, s := range []*space.Space{fresh(t, 0, 256), loaded(t, 0, 256, 0), fresh(t, 0, 256).Copy()} {
		free := slices.Collect(s.All())
		other := *s
		answersNil(t, "a copy of the struct", &other)
		shows(t, "the space", s, free)
	}
}

// P15.2: which blocks are managed; those beside them count neither as free nor as used.
func TestNotManaged(t *testing.T) {
	for _, x := range spans {
		from, n := x[0], x[1]
		s := fresh(t, from, n)
		beside := append([]int{from - 1, n, n + 1, 2 * n, n + 63, n + 64, n + 256}, far...)
		if from > 0 {
			beside = append(beside, 0, from/2)
		}
		for _, used := range []bool{false, true} {
			for _, at := range beside {
				same(t, fmt.Sprint("Use of ", at, " of ", x), s.Use(at), api.ErrArg)
				same(t, fmt.Sprint("Give of ", at, " of ", x), s.Give(at), api.ErrArg)
			}
			if used {
				shows(t, fmt.Sprint(x), s, nil)
				continue
			}
			shows(t, fmt.Sprint(x), s, to(from, n))
			takes(t, s, to(from, n)...)
		}
		isFull(t, s)
	}
}

// P15.2: each block that is managed can be used and given, once.
func TestUseAndGive(t *testing.T) {
	for _, x := range [][2]int{{0, 2048}, {60, 70}, {255, 514}, {2047, 2048}} {
		from, n := x[0], x[1]
		s := fresh(t, from, n)
		for at := from; at < n; at++ {
			what := fmt.Sprint(at, " of ", x)
			same(t, "Give of "+what, s.Give(at), api.ErrNone)
			same(t, "Use of "+what, s.Use(at), api.OK)
			same(t, "Free of "+what, s.Free(at), false)
			same(t, "Count", s.Count(), n-from-1)
			same(t, "Use, again, of "+what, s.Use(at), api.ErrThere)
			same(t, "Count", s.Count(), n-from-1)
			same(t, "Give of "+what, s.Give(at), api.OK)
			same(t, "Free of "+what, s.Free(at), true)
			same(t, "Give, again, of "+what, s.Give(at), api.ErrNone)
			same(t, "Count", s.Count(), n-from)
		}
		shows(t, "in the end", s, to(from, n))
	}
}

// P15.2: one block that becomes used, or free, leaves all others as they are.
func TestNeighbours(t *testing.T) {
	for _, at := range []int{30, 31, 62, 63, 64, 65, 127, 128, 191, 192, 254, 255, 256, 257, 298, 299} {
		s := fresh(t, 30, 300)
		same(t, "Use", s.Use(at), api.OK)
		shows(t, fmt.Sprint("without ", at), s, to(30, 300, at))
		takes(t, s, to(30, 300, at)...)
		isFull(t, s)
		same(t, "Give", s.Give(at), api.OK)
		shows(t, fmt.Sprint("with ", at), s, []int{at})
		takes(t, s, at)
		isFull(t, s)
	}
}

// P15.2: Take takes the least free block, up to the last one, and changes nothing when no block is free.
func TestTake(t *testing.T) {
	for _, x := range spans {
		s := fresh(t, x[0], x[1])
		for i, at := range to(x[0], x[1]) {
			takes(t, s, at)
			same(t, "Free", s.Free(at), false)
			same(t, "Use", s.Use(at), api.ErrThere)
			same(t, "Count", s.Count(), x[1]-x[0]-i-1)
		}
		isFull(t, s)
		isFull(t, s)
		shows(t, "full", s, nil)
	}
}

// P15.2: what was given is taken again, the least one first, whatever the order in which it was given.
func TestTakeAgain(t *testing.T) {
	s := fresh(t, 40, 600)
	takes(t, s, to(40, 600)...)
	for _, at := range []int{300, 40, 599, 64, 256, 255} {
		same(t, "Give", s.Give(at), api.OK)
	}
	takes(t, s, 40, 64)
	same(t, "Give", s.Give(41), api.OK)
	takes(t, s, 41, 255, 256, 300, 599)
	isFull(t, s)
	same(t, "Give", s.Give(599), api.OK)
	takes(t, s, 599)
	isFull(t, s)
}

// P15.3: a loop over All may end at each place, changes nothing by itself, and starts anew each time.
func TestAllEnds(t *testing.T) {
	free := to(50, 320, 50, 64, 255, 256, 319)
	s := loaded(t, 50, 320, 50, 64, 255, 256, 319)
	all := s.All()
	for n := range free {
		var got []int
		for at := range all {
			got = append(got, at)
			if len(got) > n {
				break
			}
		}
		alike(t, fmt.Sprint("the first ", n+1), got, free[:n+1])
	}
	for range 2 {
		calls := 0
		all(func(int) bool { calls++; return false })
		same(t, "calls after false", calls, 1)
	}
	all(nil)
	shows(t, "after all loops", s, free)
}

// P15.3: a loop within a loop.
func TestAllWithin(t *testing.T) {
	s := loaded(t, 62, 67, 65)
	all := s.All()
	var got []int
	for a := range all {
		for b := range all {
			got = append(got, 100*a+b)
		}
	}
	var want []int
	for _, a := range []int{62, 63, 64, 66} {
		for _, b := range []int{62, 63, 64, 66} {
			want = append(want, 100*a+b)
		}
	}
	alike(t, "pairs", got, want)
}

// P15.3: All produces the blocks that are free when the loop comes to them.
func TestAllAsTheyAre(t *testing.T) {
	s := loaded(t, 10, 20, 12, 17)
	var got []int
	for at := range s.All() {
		got = append(got, at)
		switch at {
		case 11:
			same(t, "Give of one ahead", s.Give(12), api.OK)
			same(t, "Use of one ahead", s.Use(14), api.OK)
			same(t, "Use of one behind", s.Use(10), api.OK)
		case 13:
			same(t, "Use of this one", s.Use(13), api.OK)
			same(t, "Give of one behind", s.Give(10), api.OK)
			same(t, "Use of the next but one", s.Use(15), api.OK)
			same(t, "Give of it", s.Give(15), api.OK)
		case 18:
			same(t, "Give of one behind", s.Give(17), api.OK)
			same(t, "Use of the last one", s.Use(19), api.OK)
		}
	}
	alike(t, "All", got, []int{10, 11, 12, 13, 15, 16, 18})
	shows(t, "after the loop", s, []int{10, 11, 12, 15, 16, 17, 18})
}

// P15.3: what All produces may be used in the loop, or taken, up to the last one.
func TestAllUsed(t *testing.T) {
	for _, x := range spans {
		s := fresh(t, x[0], x[1])
		var got []int
		for at := range s.All() {
			got = append(got, at)
			same(t, "Use", s.Use(at), api.OK)
		}
		alike(t, "All", got, to(x[0], x[1]))
		isFull(t, s)
		for _, at := range got {
			same(t, "Give", s.Give(at), api.OK)
		}
		for at := range s.All() {
			takes(t, s, at)
		}
		isFull(t, s)
	}
}

// P15.3: All goes by what is free when the loop runs, not when All was called.
func TestAllLater(t *testing.T) {
	s := fresh(t, 0, 4)
	all := s.All()
	takes(t, s, 0, 1)
	same(t, "Give", s.Give(0), api.OK)
	alike(t, "All", slices.Collect(all), []int{0, 2, 3})
	takes(t, s, 0, 2, 3)
	alike(t, "All", slices.Collect(all), nil)
	same(t, "Give", s.Give(3), api.OK)
	alike(t, "All", slices.Collect(all), []int{3})
}

// P15.3: a Copy is equal, and neither of both changes with the other one.
func TestCopy(t *testing.T) {
	for _, x := range spans {
		from, n := x[0], x[1]
		s := loaded(t, from, n, from)
		c := s.Copy()
		d := c.Copy()
		same(t, "they are others", c != s && d != c && d != s, true)
		same(t, "Give", s.Give(from), api.OK)
		takes(t, d, to(from+1, n)...)
		isFull(t, d)
		shows(t, "the space", s, to(from, n))
		shows(t, "the Copy", c, to(from+1, n))
		shows(t, "the Copy's Copy", d, nil)
		same(t, "Use beside a Copy's blocks", c.Use(n), api.ErrArg)
		same(t, "Give beside a Copy's blocks", c.Give(from-1), api.ErrArg)
	}
}

// P15.3: a loop over a space goes on while a Copy of it changes.
func TestCopyInALoop(t *testing.T) {
	s := fresh(t, 0, 300)
	c := s.Copy()
	var got []int
	for at := range s.All() {
		got = append(got, at)
		takes(t, c, at)
	}
	alike(t, "All", got, to(0, 300))
	isFull(t, c)
	shows(t, "the space", s, to(0, 300))
}
