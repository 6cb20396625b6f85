package dedup_test

import (
	"fmt"
	"math"
	"slices"
	"strings"
	"testing"

	"revert/api"
	"revert/dedup"
	"revert/hash"
)

// same ends the test unless got and want are equal.
func same[T comparable](t *testing.T, what string, got, want T) {
	t.Helper()
	if got != want {
		t.Fatalf("%s: got %v, want %v", what, got, want)
	}
}

// alike ends the test unless got and want have the same items, in the same order.
func alike[T comparable](t *testing.T, what string, got, want []T) {
	t.Helper()
	if !slices.Equal(got, want) {
		t.Fatalf("%s: got %v, want %v", what, got, want)
	}
}

// entry is a chunk with its id.
type entry struct {
	id          uint32
	data        string
	block, refs int
}

// String shows the data's bytes in a form that can be printed, whatever they are.
func (c entry) String() string { return fmt.Sprintf("%d %q %d %d", c.id, c.data, c.block, c.refs) }

// last is the greatest next id: that of a table that has no id left.
const last = math.MaxUint32

// ids returns what All produces.
func ids(x *dedup.Table) []uint32 { return slices.Collect(x.All()) }

// adds ends the test unless Add returns this id.
func adds(t *testing.T, x *dedup.Table, data string, block int, want uint32) {
	t.Helper()
	id, e := x.Add(data, block)
	same(t, fmt.Sprintf("error of Add of %q", data), e, api.OK)
	same(t, fmt.Sprintf("Add of %q", data), id, want)
}

// refuses ends the test unless Add returns this error.
func refuses(t *testing.T, x *dedup.Table, data string, want api.Errno) {
	t.Helper()
	id, e := x.Add(data, 77)
	same(t, fmt.Sprintf("error of Add of %q", data), e, want)
	same(t, fmt.Sprintf("Add of %q", data), id, 0)
}

// loads ends the test unless all of these can be loaded.
func loads(t *testing.T, x *dedup.Table, l ...entry) {
	t.Helper()
	for _, c := range l {
		same(t, fmt.Sprint("Load of ", c), x.Load(c.id, c.data, c.block, c.refs), api.OK)
	}
}

// releases ends the test unless Release returns this.
func releases(t *testing.T, x *dedup.Table, id uint32, wantLast bool, want api.Errno) {
	t.Helper()
	is, e := x.Release(id)
	same(t, fmt.Sprint("error of Release of ", id), e, want)
	same(t, fmt.Sprint("Release of ", id), is, wantLast)
}

// finds ends the test unless Find returns this id.
func finds(t *testing.T, x *dedup.Table, data string, want uint32) {
	t.Helper()
	id, is := x.Find(data)
	same(t, fmt.Sprintf("Find of %q", data), id, want)
	same(t, fmt.Sprintf("whether Find of %q", data), is, want > 0)
}

// gets ends the test unless Get returns this chunk.
func gets(t *testing.T, x *dedup.Table, want entry) {
	t.Helper()
	data, block, refs, ok := x.Get(want.id)
	same(t, fmt.Sprint("whether Get of ", want.id), ok, true)
	same(t, fmt.Sprint("Get of ", want.id), entry{want.id, data, block, refs}, want)
}

// lacks ends the test unless there is no chunk with this id, whatever is asked.
func lacks(t *testing.T, x *dedup.Table, id uint32) {
	t.Helper()
	data, block, refs, ok := x.Get(id)
	same(t, fmt.Sprint("whether Get of ", id), ok, false)
	same(t, fmt.Sprint("Get of ", id), entry{0, data, block, refs}, entry{})
	same(t, fmt.Sprint("Hold of ", id), x.Hold(id), api.ErrNone)
	releases(t, x, id, false, api.ErrNone)
}

// shows ends the test unless these, ordered by ids, are the chunks of the table, and this is its next id.
func shows(t *testing.T, what string, x *dedup.Table, next uint32, want ...entry) {
	t.Helper()
	var l []uint32
	for _, c := range want {
		l = append(l, c.id)
		gets(t, x, c)
		finds(t, x, c.data, c.id)
	}
	alike(t, what+": All", ids(x), l)
	same(t, what+": Count", x.Count(), len(want))
	same(t, what+": Next", x.Next(), next)
}

// alikeIn returns n texts of two bytes that are all in one bucket of the index.
func alikeIn(bucket uint8, n int) []string {
	var l []string
	for i := 0; len(l) < n; i++ {
		if s := string([]byte{byte(i >> 8), byte(i)}); hash.Bucket(s) == bucket {
			l = append(l, s)
		}
	}
	return l
}

// The chapter's examples.
func TestExamples(t *testing.T) {
	x := dedup.New()
	adds(t, x, "ab", 7, 1)
	adds(t, x, "cd", 8, 2)
	refuses(t, x, "ab", api.ErrThere)
	finds(t, x, "ab", 1)
	finds(t, x, "x", 0)

	same(t, "Hold(1)", x.Hold(1), api.OK)
	releases(t, x, 1, false, api.OK)
	releases(t, x, 1, true, api.OK)
	releases(t, x, 1, false, api.ErrNone)
	finds(t, x, "ab", 0)
	same(t, "Next", x.Next(), 3)

	adds(t, x, "ab", 7, 3)
	same(t, "Load(9, ef)", x.Load(9, "ef", 1, 2), api.OK)
	same(t, "Load(9, gh)", x.Load(9, "gh", 1, 1), api.ErrThere)
	same(t, "Load(4, ef)", x.Load(4, "ef", 1, 1), api.ErrThere)
	same(t, "Next", x.Next(), 10)

	refuses(t, x, "", api.ErrForm)
	refuses(t, x, strings.Repeat("x", 65), api.ErrForm)
	same(t, "Load(0, x, 0, 1)", x.Load(0, "x", 0, 1), api.ErrArg)
	same(t, "Load(5, x, 0, 0)", x.Load(5, "x", 0, 0), api.ErrForm)
	same(t, "Load(5, x, 0, 65536)", x.Load(5, "x", 0, 65536), api.ErrForm)

	x.Skip(5)
	same(t, "Next", x.Next(), 10)
	x.Skip(20)
	same(t, "Next", x.Next(), 20)
	alike(t, "All", ids(x), []uint32{2, 3, 9})
}

// P16.1: a new table has no chunks, and each one has chunks of its own.
func TestNew(t *testing.T) {
	a, b := dedup.New(), dedup.New()
	same(t, "they are others", a != b, true)
	for _, x := range []*dedup.Table{a, b} {
		shows(t, "a new one", x, 1)
		for _, id := range []uint32{0, 1, 2, last - 1, last} {
			lacks(t, x, id)
		}
		for _, s := range []string{"", "a", strings.Repeat("a", 64), strings.Repeat("a", 65)} {
			finds(t, x, s, 0)
		}
	}
	adds(t, a, "a", 1, 1)
	shows(t, "the other one", b, 1)
	adds(t, b, "a", 2, 1)
	shows(t, "the first one", a, 2, entry{1, "a", 1, 1})
}

// P16.1: Get returns what was added or loaded, with any number as its block.
func TestGet(t *testing.T) {
	x := dedup.New()
	var want []entry
	for i, block := range []int{0, 1, 128, 2047, 2048, -1, math.MinInt, math.MaxInt} {
		c := entry{uint32(2*i + 1), fmt.Sprint("added ", i), block, 1}
		adds(t, x, c.data, block, c.id)
		d := entry{c.id + 1, fmt.Sprint("loaded ", i), block, i + 2}
		loads(t, x, d)
		want = append(want, c, d)
	}
	shows(t, "all of them", x, 17, want...)
	for _, id := range []uint32{0, 17, 18, 1 << 16, 1<<31 + 1, last} {
		lacks(t, x, id)
	}
	shows(t, "after questions", x, 17, want...)
}

// P16.1: two chunks may be in the same block; that is not for the table to judge.
func TestSameBlock(t *testing.T) {
	x := dedup.New()
	adds(t, x, "a", 9, 1)
	adds(t, x, "b", 9, 2)
	loads(t, x, entry{7, "c", 9, 3})
	shows(t, "one block", x, 8, entry{1, "a", 9, 1}, entry{2, "b", 9, 1}, entry{7, "c", 9, 3})
}

// P16.1: All goes by rising ids, in whatever order they came.
func TestAllRises(t *testing.T) {
	x := dedup.New()
	for _, id := range []uint32{70000, 3, 1 << 31, 256, last - 1, 1, 65536, 255, 2} {
		loads(t, x, entry{id, fmt.Sprint("chunk ", id), 0, 1})
	}
	want := []uint32{1, 2, 3, 255, 256, 65536, 70000, 1 << 31, last - 1}
	for range 20 { // not by the order in which a map is gone through
		alike(t, "All", ids(x), want)
	}
}

// P16.1: a loop over All may end at each place, starts anew each time, and changes nothing.
func TestAllEnds(t *testing.T) {
	x := dedup.New()
	want := []entry{{2, "a", 0, 1}, {5, "b", 1, 2}, {6, "c", 2, 3}, {9, "d", 3, 4}}
	loads(t, x, want...)
	all := x.All()
	for n := 1; n <= len(want); n++ {
		var got []uint32
		for id := range all {
			if got = append(got, id); len(got) == n {
				break
			}
		}
		alike(t, fmt.Sprint("the first ", n), got, []uint32{2, 5, 6, 9}[:n])
	}
	calls := 0
	all(func(uint32) bool { calls++; return false })
	same(t, "calls after false", calls, 1)
	all(nil) // does not panic
	shows(t, "after all loops", x, 10, want...)
}

// P16.1: a loop within a loop.
func TestAllWithin(t *testing.T) {
	x := dedup.New()
	loads(t, x, entry{3, "a", 0, 1}, entry{1, "b", 0, 1}, entry{2, "c", 0, 1})
	all := x.All()
	var got []uint32
	for a := range all {
		for b := range all {
			got = append(got, 10*a+b)
		}
	}
	alike(t, "pairs", got, []uint32{11, 12, 13, 21, 22, 23, 31, 32, 33})
}

// P16.1: All goes by what is there when the loop starts, not when All was called.
func TestAllLater(t *testing.T) {
	x := dedup.New()
	all := x.All()
	alike(t, "All", slices.Collect(all), nil)
	adds(t, x, "a", 0, 1)
	adds(t, x, "b", 0, 2)
	alike(t, "All", slices.Collect(all), []uint32{1, 2})
	releases(t, x, 1, true, api.OK)
	alike(t, "All", slices.Collect(all), []uint32{2})
}

// P16.1: each chunk that is produced may be released at once; one that was removed ahead of the loop is no chunk any more.
func TestAllWhileReleasing(t *testing.T) {
	x := dedup.New()
	for i := range 300 {
		adds(t, x, fmt.Sprint(i), i, uint32(i+1))
	}
	var got, want []uint32
	for id := range x.All() {
		got = append(got, id)
		releases(t, x, id, true, api.OK)
		if id%10 == 1 {
			releases(t, x, id+2, true, api.OK)
		}
	}
	for id := uint32(1); id <= 300; id++ {
		if id%10 != 3 {
			want = append(want, id)
		}
	}
	alike(t, "All", got, want)
	shows(t, "after the loop", x, 301)
}

// P16.1: a loop that adds each time ends, and produces those that were there.
func TestAllWhileAdding(t *testing.T) {
	x := dedup.New()
	adds(t, x, "a", 0, 1)
	adds(t, x, "b", 0, 2)
	var got []uint32
	for id := range x.All() {
		if id <= 2 {
			got = append(got, id)
			adds(t, x, fmt.Sprint("more ", id), 0, id+2)
		}
	}
	alike(t, "All", got, []uint32{1, 2})
	alike(t, "All, later", ids(x), []uint32{1, 2, 3, 4})
}

// answersNil ends the test unless x answers as a table that there isn't.
func answersNil(t *testing.T, what string, x *dedup.Table) {
	t.Helper()
	for _, s := range []string{"", "a", "b", strings.Repeat("x", 65)} {
		refuses(t, x, s, api.ErrNil)
		finds(t, x, s, 0)
		for _, id := range []uint32{0, 1, 2, last} {
			same(t, what+": Load", x.Load(id, s, 0, int(id)), api.ErrNil)
		}
	}
	for _, id := range []uint32{0, 1, 2, last} {
		same(t, what+": Hold", x.Hold(id), api.ErrNil)
		releases(t, x, id, false, api.ErrNil)
		data, block, refs, ok := x.Get(id)
		same(t, what+": whether Get", ok, false)
		same(t, what+": Get", entry{0, data, block, refs}, entry{})
		x.Skip(id)
	}
	same(t, what+": Next", x.Next(), 0)
	same(t, what+": Count", x.Count(), 0)
	same(t, what+": Copy", x.Copy(), nil)
	same(t, what+": there is an All", x.All() != nil, true)
	alike(t, what+": All", ids(x), nil)
	x.All()(nil)
}

// P16.1: nil, and tables that neither New nor Copy made.
func TestNotMade(t *testing.T) {
	answersNil(t, "nil", nil)
	answersNil(t, "a zero value", &dedup.Table{})
	answersNil(t, "a new one", new(dedup.Table))
	x := dedup.New()
	want := []entry{{1, "a", 5, 1}, {2, "b", 6, 3}}
	loads(t, x, want...)
	for _, made := range []*dedup.Table{x, x.Copy()} {
		other := *made
		answersNil(t, "a copy of the struct", &other)
		shows(t, "the table", made, 3, want...)
	}
}

// P16.2: which data a chunk may have, by their number; any bytes will do.
func TestData(t *testing.T) {
	x, y := dedup.New(), dedup.New()
	var want []entry
	for n := range 200 {
		s := strings.Repeat("x", n)
		if n == 0 || n > 64 {
			refuses(t, x, s, api.ErrForm)
			same(t, fmt.Sprint("Load of ", n, " bytes"), y.Load(uint32(n+1), s, n, 1), api.ErrForm)
			continue
		}
		adds(t, x, s, n, uint32(n))
		want = append(want, entry{uint32(n), s, n, 1})
		loads(t, y, want[n-1])
	}
	shows(t, "added", x, 65, want...)
	shows(t, "loaded", y, 65, want...)
	refuses(t, x, strings.Repeat("x", 1<<20), api.ErrForm)
	same(t, "Load of many bytes", y.Load(65, strings.Repeat("x", 1<<20), 0, 1), api.ErrForm)

	x, want = dedup.New(), nil
	for b := range 256 {
		for _, s := range []string{string([]byte{byte(b)}), string([]byte{byte(b), 0}), string([]byte{0, byte(b), 255})} {
			if _, is := x.Find(s); !is {
				want = append(want, entry{x.Next(), s, b, 1})
				adds(t, x, s, b, x.Next())
			}
		}
	}
	same(t, "so many", len(want), 3*256)
	shows(t, "any bytes", x, uint32(len(want)+1), want...)
}

// P16.2: the ids of Add rise by one each time, whatever is released in between.
func TestAddIds(t *testing.T) {
	x := dedup.New()
	for id := uint32(1); id <= 500; id++ {
		same(t, "Next", x.Next(), id)
		adds(t, x, fmt.Sprint("chunk ", id%7), int(id), id)
		same(t, "Next", x.Next(), id+1)
		gets(t, x, entry{id, fmt.Sprint("chunk ", id%7), int(id), 1})
		releases(t, x, id, true, api.OK)
	}
	shows(t, "in the end", x, 501)
}

// P16.2: an Add with an error changes nothing; the first of several errors counts.
func TestAddErrors(t *testing.T) {
	x := dedup.New()
	adds(t, x, "ab", 5, 1)
	loads(t, x, entry{4, "cd", 6, 65535})
	want := []entry{{1, "ab", 5, 1}, {4, "cd", 6, 65535}}
	for _, next := range []uint32{5, last} { // in the end, there is no id left
		x.Skip(next)
		refuses(t, x, "", api.ErrForm)
		refuses(t, x, strings.Repeat("c", 65), api.ErrForm)
		refuses(t, x, "ab", api.ErrThere)
		refuses(t, x, "cd", api.ErrThere)
		shows(t, "after errors", x, next, want...)
	}
	refuses(t, x, "new", api.ErrCount)
	finds(t, x, "new", 0)
	shows(t, "no id left", x, last, want...)
}

// P16.2: the last id that there may be is 2^32 - 2.
func TestLastId(t *testing.T) {
	x := dedup.New()
	x.Skip(last - 2)
	adds(t, x, "a", 1, last-2)
	adds(t, x, "b", 2, last-1)
	for range 2 {
		refuses(t, x, "c", api.ErrCount)
		releases(t, x, last-1, true, api.OK) // does not make room: an id is assigned once
		refuses(t, x, "b", api.ErrCount)
		shows(t, "full", x, last, entry{last - 2, "a", 1, 1})
		loads(t, x, entry{last - 1, "b", 3, 1}) // as a table that is written down and loaded
	}
	same(t, "Load of a lesser id", x.Load(7, "d", 4, 2), api.OK)
	same(t, "Load of the id 2^32 - 1", x.Load(last, "e", 4, 2), api.ErrArg)
	shows(t, "in the end", x, last, entry{7, "d", 4, 2}, entry{last - 2, "a", 1, 1}, entry{last - 1, "b", 3, 1})

	y := dedup.New()
	loads(t, y, entry{last - 1, "a", 1, 1})
	same(t, "Next", y.Next(), last)
	refuses(t, y, "b", api.ErrCount)
}

// P16.2: a Load with an error changes nothing; the first of several errors counts.
func TestLoadErrors(t *testing.T) {
	x := dedup.New()
	want := []entry{{3, "ab", 5, 1}, {8, "cd", 6, 2}}
	loads(t, x, want...)
	long := strings.Repeat("x", 65)
	for _, c := range []struct {
		entry
		e api.Errno
	}{
		{entry{0, "x", 1, 1}, api.ErrArg},
		{entry{last, "x", 1, 1}, api.ErrArg},
		{entry{0, "", 1, 0}, api.ErrArg},
		{entry{last, long, 1, 65536}, api.ErrArg},
		{entry{0, "ab", 1, 1}, api.ErrArg},
		{entry{9, "", 1, 1}, api.ErrForm},
		{entry{9, long, 1, 1}, api.ErrForm},
		{entry{3, "", 1, 1}, api.ErrForm},
		{entry{3, long, 1, 1}, api.ErrForm},
		{entry{9, "x", 1, 0}, api.ErrForm},
		{entry{9, "x", 1, -1}, api.ErrForm},
		{entry{9, "x", 1, math.MinInt}, api.ErrForm},
		{entry{9, "x", 1, 65536}, api.ErrForm},
		{entry{9, "x", 1, 1<<16 + 1}, api.ErrForm},
		{entry{9, "x", 1, 1<<32 + 1}, api.ErrForm},
		{entry{9, "x", 1, math.MaxInt}, api.ErrForm},
		{entry{3, "ab", 5, 0}, api.ErrForm},
		{entry{9, "ab", 1, 65536}, api.ErrForm},
		{entry{3, "x", 1, 1}, api.ErrThere},
		{entry{8, "x", 1, 1}, api.ErrThere},
		{entry{9, "ab", 1, 1}, api.ErrThere},
		{entry{1, "cd", 1, 1}, api.ErrThere},
		{entry{3, "ab", 5, 1}, api.ErrThere},
		{entry{8, "ab", 1, 1}, api.ErrThere},
	} {
		same(t, fmt.Sprint("Load of ", c.entry), x.Load(c.id, c.data, c.block, c.refs), c.e)
		shows(t, fmt.Sprint("after Load of ", c.entry), x, 9, want...)
	}
	finds(t, x, "x", 0)
	adds(t, x, "x", 1, 9)
}

// P16.2: what Load makes of the next id.
func TestLoadNext(t *testing.T) {
	x := dedup.New()
	for _, c := range []struct{ id, next uint32 }{{1, 2}, {2, 3}, {9, 10}, {8, 10}, {3, 10}, {10, 11}, {12, 13}, {11, 13}, {1 << 31, 1<<31 + 1}, {last - 1, last}, {20, last}} {
		loads(t, x, entry{c.id, fmt.Sprint(c.id), 0, 1})
		same(t, fmt.Sprint("Next after Load of ", c.id), x.Next(), c.next)
	}
	x = dedup.New()
	x.Skip(10)
	loads(t, x, entry{9, "a", 0, 1})
	same(t, "Next", x.Next(), 10)
	loads(t, x, entry{10, "b", 0, 1})
	same(t, "Next", x.Next(), 11)
	adds(t, x, "c", 0, 11)
}

// P16.2: the references of Load, from 1 to 65535, are released one by one.
func TestLoadRefs(t *testing.T) {
	for _, refs := range []int{1, 2, 3, 255, 256, 65534, 65535} {
		x := dedup.New()
		loads(t, x, entry{5, "a", 9, refs})
		for n := refs; n > 1; n-- {
			gets(t, x, entry{5, "a", 9, n})
			releases(t, x, 5, false, api.OK)
		}
		gets(t, x, entry{5, "a", 9, 1})
		releases(t, x, 5, true, api.OK)
		lacks(t, x, 5)
		shows(t, "none left", x, 6)
	}
}

// P16.2: an id and data that were released can be loaded again, as no chunk has them.
func TestLoadReleased(t *testing.T) {
	x := dedup.New()
	adds(t, x, "a", 1, 1)
	adds(t, x, "b", 2, 2)
	releases(t, x, 1, true, api.OK)
	loads(t, x, entry{1, "a", 3, 4})
	releases(t, x, 2, true, api.OK)
	loads(t, x, entry{2, "c", 5, 6}, entry{7, "b", 8, 9})
	shows(t, "loaded again", x, 8, entry{1, "a", 3, 4}, entry{2, "c", 5, 6}, entry{7, "b", 8, 9})
}

// P16.2: Skip never makes the next id less.
func TestSkip(t *testing.T) {
	x := dedup.New()
	for _, c := range []struct{ to, next uint32 }{{0, 1}, {1, 1}, {2, 2}, {0, 2}, {1, 2}, {2, 2}, {100, 100}, {99, 100}, {1<<31 + 5, 1<<31 + 5}, {5, 1<<31 + 5}, {last - 1, last - 1}, {last, last}, {0, last}, {last - 1, last}} {
		x.Skip(c.to)
		same(t, fmt.Sprint("Next after Skip to ", c.to), x.Next(), c.next)
	}
	x = dedup.New()
	adds(t, x, "a", 0, 1)
	x.Skip(7)
	adds(t, x, "b", 0, 7)
	x.Skip(8)
	x.Skip(3)
	adds(t, x, "c", 0, 8)
	shows(t, "skipped", x, 9, entry{1, "a", 0, 1}, entry{7, "b", 0, 1}, entry{8, "c", 0, 1})
}

// P16.3: a chunk has at most 65535 references; a Hold that is refused adds none.
func TestHold(t *testing.T) {
	x := dedup.New()
	adds(t, x, "a", 3, 1)
	adds(t, x, "b", 4, 2)
	for n := 2; n <= 65535; n++ {
		same(t, fmt.Sprint("Hold, ", n), x.Hold(1), api.OK)
	}
	for range 3 {
		same(t, "one too many", x.Hold(1), api.ErrCount)
		gets(t, x, entry{1, "a", 3, 65535})
	}
	releases(t, x, 1, false, api.OK)
	gets(t, x, entry{1, "a", 3, 65534})
	same(t, "Hold", x.Hold(1), api.OK)
	same(t, "one too many", x.Hold(1), api.ErrCount)
	shows(t, "the other one", x, 3, entry{1, "a", 3, 65535}, entry{2, "b", 4, 1})
	for n := 65535; n > 1; n-- {
		releases(t, x, 1, false, api.OK)
	}
	releases(t, x, 1, true, api.OK)
	lacks(t, x, 1)
	shows(t, "the other one", x, 3, entry{2, "b", 4, 1})
}

// P16.3: no chunk is held or released but the one with that id.
func TestHoldNone(t *testing.T) {
	x := dedup.New()
	want := []entry{{2, "a", 1, 1}, {3, "b", 2, 2}, {5, "c", 3, 65535}}
	loads(t, x, want...)
	for _, id := range []uint32{0, 1, 4, 6, 7, 258, 65538, 1<<31 + 2, last - 1, last} {
		lacks(t, x, id)
	}
	shows(t, "after ids that are none", x, 6, want...)
	same(t, "Hold", x.Hold(3), api.OK)
	releases(t, x, 5, false, api.OK)
	shows(t, "after ids that are some", x, 6, entry{2, "a", 1, 1}, entry{3, "b", 2, 3}, entry{5, "c", 3, 65534})
}

// P16.3: the last reference that is released removes the chunk, and its data are free for another one.
func TestRelease(t *testing.T) {
	x := dedup.New()
	adds(t, x, "a", 1, 1)
	adds(t, x, "b", 2, 2)
	same(t, "Hold", x.Hold(2), api.OK)
	releases(t, x, 1, true, api.OK)
	lacks(t, x, 1)
	finds(t, x, "a", 0)
	shows(t, "one is left", x, 3, entry{2, "b", 2, 2})
	adds(t, x, "a", 9, 3)
	lacks(t, x, 1)
	releases(t, x, 2, false, api.OK)
	finds(t, x, "b", 2)
	releases(t, x, 2, true, api.OK)
	shows(t, "the new one", x, 4, entry{3, "a", 9, 1})
}

// P16.3: what was released leaves nothing behind that is found, least of all by no bytes, which no chunk has.
func TestFindAfterRelease(t *testing.T) {
	x := dedup.New()
	for bucket := range uint8(16) {
		for _, s := range alikeIn(bucket, 5) {
			id := x.Next()
			adds(t, x, s, 1, id)
			finds(t, x, "", 0)
			releases(t, x, id, true, api.OK)
			finds(t, x, s, 0)
			finds(t, x, "", 0)
			loads(t, x, entry{id, s + "x", 1, 1}) // the same id with other data
			finds(t, x, s, 0)
			finds(t, x, s+"x", id)
		}
	}
	same(t, "Count", x.Count(), 80)
}

// P16.4: chunks of one bucket of the index are kept apart, whichever of them is released.
func TestWeakIndex(t *testing.T) {
	for bucket := range uint8(16) {
		data := alikeIn(bucket, 13)
		other := data[12]
		for gone := range 12 {
			x := dedup.New()
			var want []entry
			for i, s := range data[:12] {
				finds(t, x, s, 0)
				adds(t, x, s, 100+i, uint32(i+1))
				want = append(want, entry{uint32(i + 1), s, 100 + i, 1})
			}
			finds(t, x, other, 0)
			shows(t, "all", x, 13, want...)
			releases(t, x, uint32(gone+1), true, api.OK)
			finds(t, x, data[gone], 0)
			want = slices.Delete(want, gone, gone+1)
			shows(t, "one is gone", x, 13, want...)
			adds(t, x, other, 7, 13)
			adds(t, x, data[gone], 8, 14)
			shows(t, "two more", x, 15, append(want, entry{13, other, 7, 1}, entry{14, data[gone], 8, 1})...)
		}
	}
}

// P16.4: data that begin, or end, with other data are others.
func TestOtherData(t *testing.T) {
	x := dedup.New()
	adds(t, x, "abc", 1, 1)
	for _, s := range []string{"", "a", "ab", "bc", "abcd", "abc\x00", "\x00abc", "ABC", "acb", "abb", "abd", "abc" + strings.Repeat("a", 61), "abc" + strings.Repeat("a", 62)} {
		finds(t, x, s, 0)
	}
	id := uint32(2)
	for _, s := range []string{"a", "ab", "bc", "abcd", "abc\x00", "\x00abc", "ABC", "acb", "abb", "abd"} {
		adds(t, x, s, 1, id)
		id++
	}
	finds(t, x, "abc", 1)
	same(t, "Count", x.Count(), 11)
}

// P16.4: a table with many chunks.
func TestMany(t *testing.T) {
	x := dedup.New()
	var want []entry
	for i := range 5000 {
		c := entry{uint32(i + 1), fmt.Sprint("chunk ", i), i, 1}
		adds(t, x, c.data, c.block, c.id)
		if i%3 != 0 {
			want = append(want, c)
		}
	}
	for id := uint32(1); id <= 5000; id += 3 {
		releases(t, x, id, true, api.OK)
	}
	shows(t, "many", x, 5001, want...)
	shows(t, "many, copied", x.Copy(), 5001, want...)
}

// P16.5: a Copy is equal, and neither of both changes with the other one.
func TestCopy(t *testing.T) {
	x := dedup.New()
	want := []entry{{2, "a", 1, 1}, {3, "b", 2, 2}, {9, "c", 3, 65535}}
	loads(t, x, want...)
	x.Skip(40)
	c := x.Copy()
	d := c.Copy()
	same(t, "they are others", c != x && d != c && d != x, true)

	same(t, "Hold", c.Hold(3), api.OK)
	releases(t, c, 2, true, api.OK)
	adds(t, c, "d", 4, 40)
	loads(t, c, entry{2, "e", 5, 6})
	c.Skip(50)
	shows(t, "the table", x, 40, want...)
	shows(t, "the Copy's Copy", d, 40, want...)
	shows(t, "the Copy", c, 50, entry{2, "e", 5, 6}, entry{3, "b", 2, 3}, entry{9, "c", 3, 65535}, entry{40, "d", 4, 1})
	finds(t, c, "a", 0)
	finds(t, x, "d", 0)
	finds(t, x, "e", 0)

	for _, id := range []uint32{3, 3, 2} {
		x.Release(id)
	}
	adds(t, x, "x", 1, 40)
	shows(t, "the Copy's Copy", d, 40, want...)
	same(t, "one too many", d.Hold(9), api.ErrCount)
	refuses(t, d, "a", api.ErrThere)
	adds(t, d, "y", 7, 40)
	shows(t, "the table", x, 41, entry{9, "c", 3, 65535}, entry{40, "x", 1, 1})
}

// P16.5: a Copy of a table without chunks has its next id, too.
func TestCopyEmpty(t *testing.T) {
	shows(t, "a new one", dedup.New().Copy(), 1)
	x := dedup.New()
	adds(t, x, "a", 1, 1)
	adds(t, x, "b", 1, 2)
	releases(t, x, 2, true, api.OK)
	releases(t, x, 1, true, api.OK)
	c := x.Copy()
	shows(t, "all were released", c, 3)
	adds(t, c, "a", 1, 3)
	x.Skip(last)
	refuses(t, x.Copy(), "a", api.ErrCount)
}

// P16.5: a loop over a table goes on while a Copy of it changes.
func TestCopyInALoop(t *testing.T) {
	x := dedup.New()
	for i := range 50 {
		adds(t, x, fmt.Sprint(i), i, uint32(i+1))
	}
	c := x.Copy()
	n := uint32(0)
	for id := range x.All() {
		n++
		same(t, "All", id, n)
		releases(t, c, 51-id, true, api.OK)
	}
	same(t, "so many", n, 50)
	shows(t, "the Copy", c, 51)
	same(t, "Count", x.Count(), 50)
}
