package hash_test

import (
	"math"
	"math/big"
	"math/rand"
	"slices"
	"strings"
	"testing"

	"revert/api"
	"revert/hash"
)

// pair is what All produces: a bucket, and an id in it.
type pair struct {
	bucket uint8
	id     uint32
}

// same fails the test unless got and want are equal.
func same[T comparable](t *testing.T, what string, got, want T) {
	t.Helper()
	if got != want {
		t.Errorf("%s: got %v, want %v", what, got, want)
	}
}

// alike fails the test unless got and want have the same items, in the same order.
func alike[T comparable](t *testing.T, what string, got, want []T) {
	t.Helper()
	if !slices.Equal(got, want) {
		t.Errorf("%s: got %v, want %v", what, got, want)
	}
}

// all returns what x.All produces.
func all(x *hash.Index) []pair {
	var l []pair
	for b, id := range x.All() {
		l = append(l, pair{b, id})
	}
	return l
}

// filled returns an index to which these ids were added with s, in order.
func filled(t *testing.T, s string, ids ...uint32) *hash.Index {
	t.Helper()
	x := hash.New()
	for _, id := range ids {
		same(t, "Add", x.Add(s, id), api.OK)
	}
	return x
}

// bucketOf returns the bucket of s, worked out in big numbers, with the weights as they are listed.
func bucketOf(s string) uint8 {
	n := big.NewInt(int64(len(s)))
	for i, w := 0, []int64{1, 3, 5, 7, 9, 11, 13}; i < len(s); i++ {
		n.Add(n, big.NewInt(int64(s[i])*w[i%len(w)]))
	}
	return uint8(n.Mod(n, big.NewInt(16)).Uint64())
}

// of returns strings of a bucket: short and long ones.
func of(bucket uint8) []string {
	var l []string
	for _, lead := range []string{"", "a", "\xff\x00", strings.Repeat("xyz", 40)} {
		for b := range 256 {
			if s := lead + string([]byte{byte(b)}); bucketOf(s) == bucket {
				l = append(l, s)
				break
			}
		}
	}
	return l
}

// The chapter's examples.
func TestExamples(t *testing.T) {
	for s, b := range map[string]uint8{"": 0, "a": 2, "b": 3, "ab": 9, "ba": 7} {
		same(t, "Bucket of "+s, hash.Bucket(s), b)
	}
	x := hash.New()
	same(t, "Add(a, 5)", x.Add("a", 5), api.OK)
	same(t, "Add(a, 5), again", x.Add("a", 5), api.ErrThere)
	same(t, "Add(q, 6)", x.Add("q", 6), api.OK)
	alike(t, "Find(a)", x.Find("a"), []uint32{5, 6})
	alike(t, "Find(b)", x.Find("b"), nil)
	same(t, "Drop(a, 5)", x.Drop("a", 5), api.OK)
	same(t, "Drop(a, 5), again", x.Drop("a", 5), api.ErrNone)
	alike(t, "Find(q)", x.Find("q"), []uint32{6})
	same(t, "Len", x.Len(), 1)
}

// P3.1: each position has its weight: the eighth one has that of the first one again.
func TestBucketWeights(t *testing.T) {
	for i := range 40 {
		for b := range 256 {
			s := strings.Repeat("\x00", i) + string([]byte{byte(b)}) + strings.Repeat("\x00", 40-i)
			same(t, "Bucket", hash.Bucket(s), uint8((b*[]int{1, 3, 5, 7, 9, 11, 13}[i%7]+41)%16))
		}
	}
}

// P3.1: the number of bytes counts, beside the bytes.
func TestBucketLength(t *testing.T) {
	for n := range 600 {
		same(t, "Bucket of bytes 0", hash.Bucket(strings.Repeat("\x00", n)), uint8(n%16))
	}
}

// P3.1: strings of any length, and of any bytes, some of them not UTF-8.
func TestBucket(t *testing.T) {
	list := []string{"", "\x80", "é", "日本", "a\xffb", "\xed\xa0\x80", strings.Repeat("\xff", 100000)}
	g := rand.New(rand.NewSource(31))
	for range 3000 {
		b := make([]byte, g.Intn(300))
		g.Read(b)
		list = append(list, string(b))
	}
	for _, s := range list {
		if got, want := hash.Bucket(s), bucketOf(s); got != want {
			t.Errorf("Bucket(%q): got %d, want %d", s, got, want)
		}
	}
}

// P3.2: New returns an index without ids, each time another one.
func TestNew(t *testing.T) {
	x, y := hash.New(), hash.New()
	same(t, "Len", x.Len(), 0)
	alike(t, "All", all(x), nil)
	same(t, "Add", x.Add("a", 1), api.OK)
	same(t, "Len of the other one", y.Len(), 0)
	alike(t, "Find in the other one", y.Find("a"), nil)
}

// P3.2: for nil, and for an index that New did not return, the methods return ErrNil, no ids, and 0.
func TestNotMade(t *testing.T) {
	var zero hash.Index
	made := filled(t, "a", 5)
	copied := *made
	for what, x := range map[string]*hash.Index{"nil": nil, "zero value": &zero, "new": new(hash.Index), "copy": &copied} {
		for range 2 { // the second time, after all other calls
			same(t, what+": Add", x.Add("a", 5), api.ErrNil)
			same(t, what+": Add", x.Add("b", 6), api.ErrNil)
			same(t, what+": Drop", x.Drop("a", 5), api.ErrNil)
			alike(t, what+": Find", x.Find("a"), nil)
			same(t, what+": Len", x.Len(), 0)
			alike(t, what+": All", all(x), nil)
		}
	}
	alike(t, "the one that was copied", made.Find("a"), []uint32{5})
}

// P3.2: Add puts an id last, unless it is in that bucket; in another bucket it may be.
func TestAdd(t *testing.T) {
	x := hash.New()
	ids := []uint32{7, 0, math.MaxUint32, 3, 1 << 31}
	for i, id := range ids {
		same(t, "Add", x.Add("a", id), api.OK)
		alike(t, "Find", x.Find("a"), ids[:i+1])
	}
	for _, id := range ids {
		for _, s := range of(hash.Bucket("a")) {
			same(t, "Add of what is there", x.Add(s, id), api.ErrThere)
		}
	}
	alike(t, "Find after ErrThere", x.Find("a"), ids)
	same(t, "Len after ErrThere", x.Len(), len(ids))
	same(t, "Add of an id of another bucket", x.Add("b", 7), api.OK)
	alike(t, "Find in that bucket", x.Find("b"), []uint32{7})
	alike(t, "Find in the first one", x.Find("a"), ids)
}

// P3.2: Drop removes the id that is named, wherever it is among the others, and these keep their order.
func TestDrop(t *testing.T) {
	ids := []uint32{4, 9, 0, 2, math.MaxUint32}
	for i, id := range ids {
		x := filled(t, "a", ids...)
		same(t, "Add in another bucket", x.Add("b", id), api.OK)
		same(t, "Drop", x.Drop("q", id), api.OK)
		rest := slices.Concat(ids[:i], ids[i+1:])
		alike(t, "Find", x.Find("a"), rest)
		same(t, "Drop of what was dropped", x.Drop("a", id), api.ErrNone)
		alike(t, "Find after ErrNone", x.Find("a"), rest)
		alike(t, "Find in the other bucket", x.Find("b"), []uint32{id})
		same(t, "Add of what was dropped", x.Add("a", id), api.OK)
		alike(t, "Find: it is the last one", x.Find("a"), append(rest, id))
	}
}

// P3.2: what is not in the bucket is not dropped: not from an empty one, and not from another one.
func TestDropNone(t *testing.T) {
	x := filled(t, "a", 1, 2)
	same(t, "Drop from an empty bucket", x.Drop("b", 1), api.ErrNone)
	same(t, "Drop of another id", x.Drop("a", 3), api.ErrNone)
	same(t, "Drop of 0", x.Drop("a", 0), api.ErrNone)
	alike(t, "Find", x.Find("a"), []uint32{1, 2})
	same(t, "Len", x.Len(), 2)
	same(t, "Drop from a new index", hash.New().Drop("", 0), api.ErrNone)
}

// P3.2: an index from which all was dropped is as one that is new.
func TestDropAll(t *testing.T) {
	x := filled(t, "a", 1, 2, 3)
	for _, id := range []uint32{2, 3, 1} {
		same(t, "Drop", x.Drop("a", id), api.OK)
	}
	alike(t, "Find", x.Find("a"), nil)
	same(t, "Len", x.Len(), 0)
	alike(t, "All", all(x), nil)
	same(t, "Add", x.Add("a", 2), api.OK)
	alike(t, "Find", x.Find("a"), []uint32{2})
}

// P3.3: what Find returned is new memory: neither does the index change by it, nor it by the index.
func TestFindIsNewMemory(t *testing.T) {
	x := filled(t, "a", 1, 2, 3)
	first, second := x.Find("a"), x.Find("a")
	first[0] = 9
	_ = append(first[:1], 8, 8)
	_ = append(x.Find("a"), 7)
	alike(t, "the index", x.Find("a"), []uint32{1, 2, 3})
	alike(t, "what was found too", second, []uint32{1, 2, 3})
	same(t, "Add", x.Add("a", 4), api.OK)
	same(t, "Drop", x.Drop("a", 1), api.OK)
	alike(t, "what was found ahead", second, []uint32{1, 2, 3})
	alike(t, "the index", x.Find("a"), []uint32{2, 3, 4})
}

// P3.3: Len counts an id once for each bucket that it is in.
func TestLen(t *testing.T) {
	x := hash.New()
	for i := range 16 {
		for _, s := range of(uint8(i))[:1] {
			same(t, "Add", x.Add(s, 1), api.OK)
			same(t, "Add", x.Add(s, uint32(i)+2), api.OK)
			same(t, "Len", x.Len(), 2*i+2)
		}
	}
}

// P3.3: All goes by ascending buckets, and in each of them in the order of adding.
func TestAll(t *testing.T) {
	x := hash.New()
	var want []pair
	for b := 15; b >= 0; b-- {
		if b == 4 {
			continue // an empty bucket in between
		}
		var own []pair
		for i, s := range of(uint8(b)) {
			id := uint32(100 - i)
			same(t, "Add", x.Add(s, id), api.OK)
			own = append(own, pair{uint8(b), id})
		}
		want = append(own, want...)
	}
	alike(t, "All", all(x), want)
	alike(t, "All, again", all(x), want)
}

// P3.3: a loop over All may end at any time, and the same function may be ranged over again.
func TestAllEnds(t *testing.T) {
	x := filled(t, "a", 1, 2)
	same(t, "Add", x.Add("b", 3), api.OK)
	seq := x.All()
	for n := 1; n <= 3; n++ {
		var got []uint32
		for _, id := range seq {
			if got = append(got, id); len(got) == n {
				break
			}
		}
		alike(t, "the first ids", got, []uint32{1, 2, 3}[:n])
	}
	same(t, "Add", x.Add("b", 4), api.OK)
	var got []uint32
	for _, id := range seq {
		got = append(got, id)
	}
	alike(t, "a loop that starts later", got, []uint32{1, 2, 3, 4})
	seq(nil) // does not panic
}

// P3.3: loops within loops do not disturb each other.
func TestAllWithin(t *testing.T) {
	x := filled(t, "a", 1, 2, 3)
	n := 0
	for range x.All() {
		for range x.All() {
			n++
		}
	}
	same(t, "steps", n, 9)
}

// P3.3: what is dropped during the iteration may be produced, or not; the others are produced, once each and in order.
func TestAllWhileDropping(t *testing.T) {
	for at := range 8 {
		for drop := range 8 {
			x := filled(t, "a", 1, 2, 3, 4)
			for id := uint32(5); id <= 8; id++ {
				same(t, "Add", x.Add("b", id), api.OK)
			}
			var got []uint32
			n := 0
			for b, id := range x.All() {
				same(t, "the bucket", b, hash.Bucket([]string{"a", "b"}[(id-1)/4]))
				if n == at {
					same(t, "Drop", x.Drop([]string{"a", "b"}[drop/4], uint32(drop)+1), api.OK)
				}
				if id != uint32(drop)+1 {
					got = append(got, id)
				}
				n++
			}
			want := []uint32{1, 2, 3, 4, 5, 6, 7, 8}
			alike(t, "those that were not dropped", got, slices.Delete(want, drop, drop+1))
			same(t, "Len", x.Len(), 7)
		}
	}
}

// P3.3: every id that is produced may be dropped at once.
func TestAllDropsAll(t *testing.T) {
	x := filled(t, "a", 1, 2, 3, 4)
	var got []uint32
	for _, id := range x.All() {
		got = append(got, id)
		same(t, "Drop", x.Drop("a", id), api.OK)
	}
	alike(t, "All", got, []uint32{1, 2, 3, 4})
	same(t, "Len", x.Len(), 0)
}

// P3.3: what is added during the iteration may be produced, or not; a loop that adds each time ends, and the others are produced as ever.
func TestAllWhileAdding(t *testing.T) {
	x := filled(t, "a", 1, 2, 3)
	same(t, "Add", x.Add("b", 4), api.OK)
	var got []uint32
	for _, id := range x.All() {
		if id < 100 {
			got = append(got, id)
			for _, s := range []string{"", "a", "b"} {
				same(t, "Add", x.Add(s, id+100), api.OK)
			}
		}
	}
	alike(t, "those that were there", got, []uint32{1, 2, 3, 4})
	alike(t, "Find", x.Find("a"), []uint32{1, 2, 3, 101, 102, 103, 104})
}

// P3.4: two strings with the same bucket find the same ids; what is added with one is found, and dropped, with the other.
func TestSameBucket(t *testing.T) {
	for b := range 16 {
		list := of(uint8(b))
		for _, one := range list {
			for _, other := range list {
				x := filled(t, one, 1)
				same(t, "Add with the other one", x.Add(other, 2), api.OK)
				alike(t, "Find", x.Find(one), []uint32{1, 2})
				alike(t, "Find with the other one", x.Find(other), []uint32{1, 2})
				same(t, "Drop with the other one", x.Drop(other, 1), api.OK)
				alike(t, "Find", x.Find(one), []uint32{2})
			}
		}
		x := filled(t, list[0], 1)
		for c := range 16 {
			if c != b {
				alike(t, "Find in another bucket", x.Find(of(uint8(c))[0]), nil)
			}
		}
	}
}

// model is what an index holds, bucket by bucket.
type model map[uint8][]uint32

func (m model) add(b uint8, id uint32) api.Errno {
	if slices.Contains(m[b], id) {
		return api.ErrThere
	}
	m[b] = append(m[b], id)
	return api.OK
}

func (m model) drop(b uint8, id uint32) api.Errno {
	i := slices.Index(m[b], id)
	if i < 0 {
		return api.ErrNone
	}
	m[b] = slices.Delete(m[b], i, i+1)
	return api.OK
}

func (m model) all() []pair {
	var l []pair
	for b := range uint8(16) {
		for _, id := range m[b] {
			l = append(l, pair{b, id})
		}
	}
	return l
}

// P3.5: what was added, and not dropped since, is found, and nothing else; what was added first comes first.
func TestModel(t *testing.T) {
	for seed := range int64(40) {
		g := rand.New(rand.NewSource(seed))
		x, m := hash.New(), model{}
		for range 500 {
			b := make([]byte, g.Intn(4))
			g.Read(b)
			s, id := string(b), uint32(g.Intn(12))
			if g.Intn(2) == 0 {
				same(t, "Add", x.Add(s, id), m.add(bucketOf(s), id))
			} else {
				same(t, "Drop", x.Drop(s, id), m.drop(bucketOf(s), id))
			}
			alike(t, "Find", x.Find(s), m[bucketOf(s)])
			same(t, "Len", x.Len(), len(m.all()))
			alike(t, "All", all(x), m.all())
		}
	}
}

// P3.5: many ids in one bucket are kept apart and in order.
func TestManyIds(t *testing.T) {
	x := hash.New()
	var want []uint32
	for id := uint32(5000); id > 0; id-- {
		same(t, "Add", x.Add("a", id), api.OK)
		if id%3 != 0 {
			want = append(want, id)
		}
	}
	for id := uint32(3); id <= 5000; id += 3 {
		same(t, "Drop", x.Drop("a", id), api.OK)
	}
	alike(t, "Find", x.Find("a"), want)
	same(t, "Len", x.Len(), len(want))
}
