package value_test

import (
	"fmt"
	"math"
	"math/rand"
	"slices"
	"strings"
	"testing"

	"revert/api"
	"revert/codec"
	"revert/value"
)

// equal fails the test unless got and want are equal.
func equal[T comparable](t *testing.T, what string, got, want T) {
	t.Helper()
	if got != want {
		t.Errorf("%s: got %#v, want %#v", what, got, want)
	}
}

// list fails the test unless got and want have the same elements.
func list[T comparable](t *testing.T, what string, got, want []T) {
	t.Helper()
	if !slices.Equal(got, want) {
		t.Errorf("%s: got %#v, want %#v", what, got, want)
	}
}

// alike fails the test unless got and want are equal, field by field.
func alike(t *testing.T, what string, got, want api.Value) {
	t.Helper()
	equal(t, what+": Dir", got.Dir, want.Dir)
	equal(t, what+": Size", got.Size, want.Size)
	list(t, what+": Chunks", got.Chunks, want.Chunks)
}

// file returns a file of this size with these chunks.
func file(size int, chunks ...uint32) api.Value { return api.Value{Size: size, Chunks: chunks} }

// dir returns what is a directory, of this size and with these chunks.
func dir(size int, chunks ...uint32) api.Value {
	return api.Value{Dir: true, Size: size, Chunks: chunks}
}

// bytes returns a content with these bytes.
func bytes(data string) value.Content { return value.Content{Data: data} }

// pattern returns n bytes, in which no two of the first four chunks are equal.
func pattern(n int) string {
	var b strings.Builder
	for i := range n {
		b.WriteByte(byte(i + i/64*7))
	}
	return b.String()
}

// ids returns n numbers above 0, with both small and great ones.
func ids(n int) []uint32 {
	var l []uint32
	for i := range n {
		l = append(l, []uint32{1, math.MaxUint32, 0x01020304, 1 << 31, 256}[i%5])
	}
	return l
}

// chunksOf tells how many chunks a size that a file may have needs; -1 for others.
func chunksOf(size int) int {
	switch {
	case size == 0:
		return 0
	case size >= 1 && size <= 64:
		return 1
	case size >= 65 && size <= 128:
		return 2
	case size >= 129 && size <= 192:
		return 3
	case size >= 193 && size <= 256:
		return 4
	}
	return -1
}

// puts fails the test unless Put(v) returns this.
func puts(t *testing.T, v api.Value, want string, wantE api.Errno) {
	t.Helper()
	s, e := value.Put(v)
	equal(t, fmt.Sprintf("Put of %v", v), s, want)
	equal(t, fmt.Sprintf("Put of %v", v), e, wantE)
}

// putsContent fails the test unless PutContent(c) returns this.
func putsContent(t *testing.T, c value.Content, want string, wantE api.Errno) {
	t.Helper()
	s, e := value.PutContent(c)
	equal(t, fmt.Sprintf("PutContent of %v", c), s, want)
	equal(t, fmt.Sprintf("PutContent of %v", c), e, wantE)
}

// checks fails the test unless Check(v) returns want, and Put does so too.
func checks(t *testing.T, v api.Value, want api.Errno) {
	t.Helper()
	equal(t, fmt.Sprintf("Check of %v", v), value.Check(v), want)
	s, e := value.Put(v)
	equal(t, fmt.Sprintf("Put of %v", v), e, want)
	equal(t, fmt.Sprintf("whether Put of %v is empty", v), s == "", want != api.OK)
}

// takes fails the test unless Take of code returns this, and leaves rest in a reader without an error.
func takes(t *testing.T, code string, want api.Value, wantE api.Errno, rest string) {
	t.Helper()
	what := fmt.Sprintf("Take of %x", code)
	r := codec.Read(code)
	v, e := value.Take(r)
	alike(t, what, v, want)
	equal(t, what, e, wantE)
	equal(t, what+": Err of the reader", r.Err(), api.OK)
	equal(t, what+": Rest of the reader", r.Rest(), rest)
}

// takesContent fails the test unless TakeContent of code returns this, and leaves rest in a reader without an error.
func takesContent(t *testing.T, code string, want value.Content, wantE api.Errno, rest string) {
	t.Helper()
	what := fmt.Sprintf("TakeContent of %x", code)
	r := codec.Read(code)
	c, e := value.TakeContent(r)
	equal(t, what, c, want)
	equal(t, what, e, wantE)
	equal(t, what+": Err of the reader", r.Err(), api.OK)
	equal(t, what+": Rest of the reader", r.Rest(), rest)
}

// breaks fails the test unless Take returns the reader's error, and this one.
func breaks(t *testing.T, what string, r *codec.Reader, want api.Errno) {
	t.Helper()
	v, e := value.Take(r)
	alike(t, "Take of "+what, v, api.Value{})
	equal(t, "Take of "+what, e, want)
	equal(t, "Err of "+what, r.Err(), want)
}

// breaksContent fails the test unless TakeContent returns the reader's error, and this one.
func breaksContent(t *testing.T, what string, r *codec.Reader, want api.Errno) {
	t.Helper()
	c, e := value.TakeContent(r)
	equal(t, "TakeContent of "+what, c, value.Content{})
	equal(t, "TakeContent of "+what, e, want)
	equal(t, "Err of "+what, r.Err(), want)
}

// The chapter's examples.
func TestExamples(t *testing.T) {
	list(t, "Split of 65 bytes", value.Split(strings.Repeat("x", 65)), []string{strings.Repeat("x", 64), "x"})
	list(t, "Split of no bytes", value.Split(""), nil)
	equal(t, "Count(64)", value.Count(64), 1)
	equal(t, "Count(65)", value.Count(65), 2)
	equal(t, "Count(-1)", value.Count(-1), 0)
	puts(t, file(65, 7, 258), "\x00\x00\x41\x00\x00\x00\x07\x00\x00\x01\x02", api.OK)
	puts(t, dir(0), "\x01", api.OK)
	putsContent(t, bytes("ab"), "\x00\x00\x02ab", api.OK)
	breaks(t, "00 00 02 61 62 63", codec.Read("\x00\x00\x02abc"), api.ErrTorn)
	takesContent(t, "\x00\x00\x02abc", bytes("ab"), api.OK, "c")
	checks(t, file(65, 1), api.ErrForm)
	checks(t, file(257), api.ErrForm)
	checks(t, file(257, 1, 2, 3, 4, 5), api.ErrForm)
	checks(t, file(1, 0), api.ErrForm)
	checks(t, dir(1), api.ErrForm)
	takes(t, "\x02", api.Value{}, api.ErrForm, "")
	takes(t, "\x00\x01\x01", api.Value{}, api.ErrForm, "")
	takes(t, "\x00\x00\x01\x00\x00\x00\x00", api.Value{}, api.ErrForm, "")
	breaks(t, "the empty string", codec.Read(""), api.ErrTorn)
}

// P7.1: the chunks are the bytes in pieces of 64, whether or not a file could have as many.
func TestSplit(t *testing.T) {
	a, b, c := strings.Repeat("a", 64), strings.Repeat("\x00", 64), strings.Repeat("\xff", 64)
	for _, x := range []struct {
		data string
		want []string
	}{
		{"", nil},
		{"x", []string{"x"}},
		{"\x00", []string{"\x00"}},
		{a[1:], []string{a[1:]}},
		{a, []string{a}},
		{a + "x", []string{a, "x"}},
		{a + b[1:], []string{a, b[1:]}},
		{a + b, []string{a, b}},
		{a + b + "\n", []string{a, b, "\n"}},
		{a + b + c + a, []string{a, b, c, a}},
		{a + b + c + a + "x", []string{a, b, c, a, "x"}},
		{strings.Repeat("ä", 33), []string{strings.Repeat("ä", 32), "ä"}},
		{"x" + strings.Repeat("ä", 33), []string{"x" + strings.Repeat("ä", 31) + "\xc3", "\xa4ä"}},
	} {
		list(t, fmt.Sprintf("Split of %q", x.data), value.Split(x.data), x.want)
	}
}

// P7.1: Count tells of a size what Split makes of as many bytes; of sizes no string has, what it would.
func TestCount(t *testing.T) {
	for n := range 1500 {
		equal(t, fmt.Sprint("Count of ", n), value.Count(n), len(value.Split(pattern(n))))
		equal(t, fmt.Sprint("Count of ", -n), value.Count(-n), 0)
	}
	for _, x := range []struct{ size, want int }{
		{0, 0}, {1, 1}, {63, 1}, {127, 2}, {128, 2}, {129, 3}, {255, 4}, {256, 4}, {257, 5},
		{1 << 20, 1 << 14}, {1<<20 + 1, 1<<14 + 1},
		{math.MaxInt, math.MaxInt/64 + 1}, {math.MaxInt - 62, math.MaxInt/64 + 1}, {math.MaxInt - 63, math.MaxInt / 64},
		{math.MinInt, 0}, {math.MinInt + 1, 0}, {math.MinInt + 63, 0}, {-64, 0}, {-65, 0},
	} {
		equal(t, fmt.Sprint("Count of ", x.size), value.Count(x.size), x.want)
	}
}

// P7.1, P7.2: of each size, a file has exactly as many chunks as as many bytes; Put rejects what Check does.
func TestCheckFile(t *testing.T) {
	sizes := []int{math.MinInt, math.MinInt + 1, -65536, -257, -256, 65535, 65536, 65537, 65600, 1 << 30, math.MaxInt}
	for size := -70; size <= 400; size++ {
		sizes = append(sizes, size)
	}
	for _, size := range sizes {
		for n := range 8 {
			want := api.ErrForm
			if n == chunksOf(size) {
				want = api.OK
			}
			checks(t, file(size, ids(n)...), want)
		}
	}
	checks(t, api.Value{Chunks: []uint32{}}, api.OK)
	checks(t, file(128, 9, 9), api.OK) // two chunks may be one
}

// P7.1, P7.2: no chunk is 0, whichever it is.
func TestCheckChunk(t *testing.T) {
	for n := 1; n <= 4; n++ {
		for size := n*64 - 63; size <= n*64; size++ {
			checks(t, file(size, make([]uint32, n)...), api.ErrForm)
			for i := range n {
				for _, id := range []uint32{1, 255, 65536, 1 << 31, math.MaxUint32} {
					v := file(size, ids(n)...)
					v.Chunks[i] = id
					checks(t, v, api.OK)
					v.Chunks[i] = 0
					checks(t, v, api.ErrForm)
				}
			}
		}
	}
}

// P7.1, P7.2: a directory has neither a size nor chunks.
func TestCheckDir(t *testing.T) {
	checks(t, dir(0), api.OK)
	checks(t, api.Value{Dir: true, Chunks: []uint32{}}, api.OK)
	for _, size := range []int{math.MinInt, -1, 0, 1, 64, 65, 256, 257, 65536, math.MaxInt} {
		for n := range 6 {
			if size == 0 && n == 0 {
				continue
			}
			checks(t, dir(size, ids(n)...), api.ErrForm)
			checks(t, dir(size, make([]uint32, n)...), api.ErrForm)
		}
	}
}

// P7.1: each field counts for Same, and each chunk; whether the values are valid does not.
func TestSame(t *testing.T) {
	all := []api.Value{
		{}, dir(0), file(1), dir(1), file(-1), file(math.MinInt), file(0, 0), file(0, 1), dir(0, 1), file(1, 1), dir(1, 1), file(1, 2), file(2, 1),
		file(65, 1), file(65, 1, 2), file(65, 2, 1), file(65, 1, 1), file(65, 1, 2, 3), file(65, 0, 1, 2), file(65, 1, 0), file(65, 1, 1<<31),
		file(66, 1, 2), file(256, 1, 2, 3, 4), file(256, 9, 2, 3, 4), file(256, 1, 2, 3, 9), file(256, 1, 2, 9, 4),
	}
	for i, a := range all {
		for j, b := range all {
			b.Chunks = slices.Clone(b.Chunks) // equal is what has equal elements, not the same memory
			equal(t, fmt.Sprintf("Same of %v and %v", a, b), value.Same(a, b), i == j)
		}
	}
	empty := [][]uint32{nil, {}, make([]uint32, 0, 4)}
	for _, k := range empty {
		for _, l := range empty {
			equal(t, "Same of lists that are nil or empty", value.Same(file(0, k...), file(0, l...)), true)
			equal(t, "Same of directories, their lists being nil or empty", value.Same(dir(0, k...), dir(0, l...)), true)
		}
	}
	one := file(128, 1, 2, 3)
	other := one
	other.Chunks = one.Chunks[:2]
	equal(t, "Same of a list and its beginning", value.Same(one, other), false)
}

// P7.1: a copy is equal, and what happens to it or to what it was made of does not reach the other one, not even where there is room behind its list.
func TestCopy(t *testing.T) {
	for _, v := range []api.Value{{}, dir(0), file(0), file(1, 1), file(65, 7, 258), file(256, 1, 2, 3, 4), dir(-3, 0, 5), file(-1), file(math.MaxInt, 0), {Chunks: []uint32{}}} {
		what := fmt.Sprintf("Copy of %v", v)
		first := append([]uint32(nil), v.Chunks...)
		room := make([]uint32, len(v.Chunks), len(v.Chunks)+3)
		copy(room, v.Chunks)
		v.Chunks = room
		c := value.Copy(v)
		alike(t, what, c, v)
		equal(t, what+": Same", value.Same(c, v), true)
		for i := range c.Chunks {
			c.Chunks[i] = 100
		}
		if l := c.Chunks[:cap(c.Chunks)]; len(l) > len(c.Chunks) {
			l[len(c.Chunks)] = 101
		}
		list(t, what+", written to: what it was made of", v.Chunks, first)
		list(t, what+", written to: the room behind what it was made of", room[len(room):cap(room)], []uint32{0, 0, 0})
		c = value.Copy(v)
		for i := range v.Chunks {
			v.Chunks[i] = 102
		}
		list(t, what+", after a write to what it was made of", c.Chunks, first)
	}
}

// P7.2: a byte 0, the size, and the chunks, with the highest bytes first.
func TestPut(t *testing.T) {
	puts(t, api.Value{}, "\x00\x00\x00", api.OK)
	puts(t, api.Value{Chunks: []uint32{}}, "\x00\x00\x00", api.OK)
	puts(t, api.Value{Dir: true, Chunks: []uint32{}}, "\x01", api.OK)
	puts(t, file(1, 1), "\x00\x00\x01\x00\x00\x00\x01", api.OK)
	puts(t, file(64, math.MaxUint32), "\x00\x00\x40\xff\xff\xff\xff", api.OK)
	puts(t, file(128, 5, 0x01020304), "\x00\x00\x80\x00\x00\x00\x05\x01\x02\x03\x04", api.OK)
	puts(t, file(255, 4, 3, 2, 1), "\x00\x00\xff\x00\x00\x00\x04\x00\x00\x00\x03\x00\x00\x00\x02\x00\x00\x00\x01", api.OK)
	puts(t, file(256, 1, 1, 1, 0xf0000000), "\x00\x01\x00\x00\x00\x00\x01\x00\x00\x00\x01\x00\x00\x00\x01\xf0\x00\x00\x00", api.OK)
}

// P7.2: a byte 0, the size, and the bytes, of as many as a file may have.
func TestPutContent(t *testing.T) {
	for n := range 400 {
		data := pattern(n)
		want, wantE := "\x00"+string([]byte{byte(n >> 8), byte(n)})+data, api.OK
		if n > 256 {
			want, wantE = "", api.ErrForm
		}
		putsContent(t, bytes(data), want, wantE)
		wantE = api.ErrForm
		if n == 0 {
			want, wantE = "\x01", api.OK
		} else {
			want = ""
		}
		putsContent(t, value.Content{Dir: true, Data: data}, want, wantE)
	}
	for _, n := range []int{65535, 65536, 65537, 65792} { // more than 16 bits can tell
		putsContent(t, bytes(strings.Repeat("x", n)), "", api.ErrForm)
	}
}

// P7.2: what follows is left in the reader, and can be read.
func TestTake(t *testing.T) {
	takes(t, "\x01", dir(0), api.OK, "")
	takes(t, "\x01\x00\x00\x00", dir(0), api.OK, "\x00\x00\x00")
	takes(t, "\x00\x00\x00", file(0), api.OK, "")
	takes(t, "\x00\x00\x00\x00\x00\x00\x01", file(0), api.OK, "\x00\x00\x00\x01")
	takes(t, "\x00\x00\x01\x00\x00\x00\x01abc", file(1, 1), api.OK, "abc")
	takes(t, "\x00\x00\x41\xff\xff\xff\xff\x01\x02\x03\x04\x05", file(65, math.MaxUint32, 0x01020304), api.OK, "\x05")
	takesContent(t, "\x01", value.Content{Dir: true}, api.OK, "")
	takesContent(t, "\x01\x00\x01a", value.Content{Dir: true}, api.OK, "\x00\x01a")
	takesContent(t, "\x00\x00\x00", bytes(""), api.OK, "")
	takesContent(t, "\x00\x00\x00a", bytes(""), api.OK, "a")
	takesContent(t, "\x00\x00\x01\x00\x00", bytes("\x00"), api.OK, "\x00")
	takesContent(t, "\x00\x01\x00"+pattern(257), bytes(pattern(256)), api.OK, pattern(257)[256:])
	r := codec.Read("\x01\x00\x00\x02\x00\x00\x00\x09\x00\x00\x02ab\x01z")
	for _, want := range []api.Value{dir(0), file(2, 9)} {
		v, e := value.Take(r)
		alike(t, "Take, one after the other", v, want)
		equal(t, "Take, one after the other", e, api.OK)
	}
	for _, want := range []value.Content{bytes("ab"), {Dir: true}} {
		c, e := value.TakeContent(r)
		equal(t, "TakeContent, one after the other", c, want)
		equal(t, "TakeContent, one after the other", e, api.OK)
	}
	equal(t, "the rest of the reader", r.Rest(), "z")
}

// P7.2: no other first byte than 0 and 1 is read past.
func TestTakeKind(t *testing.T) {
	for b := 2; b < 256; b++ {
		for _, rest := range []string{"", "\x00", "\x00\x00\x00", "\x00\x01\x00\x00\x00\x01", "\x01\x01"} {
			code := string([]byte{byte(b)}) + rest
			takes(t, code, api.Value{}, api.ErrForm, rest)
			takesContent(t, code, value.Content{}, api.ErrForm, rest)
		}
	}
}

// P7.2: of all sizes, those up to 256 are taken, and nothing is read after a greater one.
func TestTakeSize(t *testing.T) {
	rest := strings.Repeat("\x01", 400)
	for size := range 65536 {
		code := "\x00" + string([]byte{byte(size >> 8), byte(size)})
		if n := chunksOf(size); n >= 0 {
			takes(t, code+rest, file(size, slices.Repeat([]uint32{0x01010101}, n)...), api.OK, rest[4*n:])
			takesContent(t, code+rest, bytes(rest[:size]), api.OK, rest[size:])
			continue
		}
		takes(t, code, api.Value{}, api.ErrForm, "")
		takes(t, code+rest, api.Value{}, api.ErrForm, rest)
		takesContent(t, code, value.Content{}, api.ErrForm, "")
		takesContent(t, code+rest, value.Content{}, api.ErrForm, rest)
	}
}

// P7.2: a chunk 0 is found when all chunks have been read; it is none to have a byte that is 0.
func TestTakeChunk(t *testing.T) {
	for n := 1; n <= 4; n++ {
		head := "\x00\x00" + string([]byte{byte(n*64 - 1)})
		for i := range n {
			l := []byte(strings.Repeat("\x00\x01\x02\x03", n))
			copy(l[4*i:], "\x00\x00\x00\x00")
			takes(t, head+string(l)+"ab", api.Value{}, api.ErrForm, "ab")
			for k := range 4 {
				l[4*i+k] = 1
				want := slices.Repeat([]uint32{0x00010203}, n)
				want[i] = 1 << (24 - 8*k)
				takes(t, head+string(l)+"ab", file(n*64-1, want...), api.OK, "ab")
				l[4*i+k] = 0
			}
		}
	}
}

// P7.2, P7.4: what is missing is the error wherever bytes end too early, even behind a chunk 0.
func TestTakeTorn(t *testing.T) {
	for size := range 257 {
		head := "\x00" + string([]byte{byte(size >> 8), byte(size)})
		n := chunksOf(size)
		zeros := head + strings.Repeat("\x00", 4*n)
		code := head + strings.Repeat("\x01\x02\x03\x04", n)
		for i := range code {
			breaks(t, fmt.Sprintf("%x", code[:i]), codec.Read(code[:i]), api.ErrTorn)
			breaks(t, fmt.Sprintf("%x", zeros[:i]), codec.Read(zeros[:i]), api.ErrTorn)
		}
		code = head + pattern(size)
		for i := range code {
			breaksContent(t, fmt.Sprintf("%x", code[:i]), codec.Read(code[:i]), api.ErrTorn)
		}
	}
}

// P7.2: an earlier error of the reader stays its error, and a nil reader has one.
func TestTakeEarlierError(t *testing.T) {
	torn := codec.Read("\x01\x01")
	torn.U32()
	breaks(t, "a reader with ErrTorn", torn, api.ErrTorn)
	breaksContent(t, "a reader with ErrTorn", torn, api.ErrTorn)
	wrong := codec.Read("\x80\x00\x01\x01")
	wrong.Var()
	breaks(t, "a reader with ErrForm", wrong, api.ErrForm)
	breaksContent(t, "a reader with ErrForm", wrong, api.ErrForm)
	breaks(t, "a nil reader", nil, api.ErrNil)
	breaksContent(t, "a nil reader", nil, api.ErrNil)
	breaks(t, "the zero value of a reader", &codec.Reader{}, api.ErrTorn)
	breaksContent(t, "the zero value of a reader", &codec.Reader{}, api.ErrTorn)
}

// P7.2: Check, Same, Put and Copy leave what they are given; and what is taken twice shares nothing.
func TestArguments(t *testing.T) {
	for _, l := range [][]uint32{nil, {}, {0}, {3, 1}, {0, 7, 0}, {4, 3, 2, 1}, {9, 8, 7, 6, 5}} {
		v := file(200, l...)
		was := slices.Clone(l)
		value.Check(v)
		value.Same(v, v)
		value.Put(v)
		value.Copy(v)
		list(t, "the chunks of an argument", l, was)
	}
	s, _ := value.Put(file(256, 1, 2, 3, 4))
	a, _ := value.Take(codec.Read(s))
	b, _ := value.Take(codec.Read(s))
	a.Chunks[0], a.Chunks[3] = 8, 9
	list(t, "what was taken twice", b.Chunks, []uint32{1, 2, 3, 4})
	data := value.Split(pattern(256))
	data[0], data[3] = "x", "y"
	list(t, "what was split twice", value.Split(pattern(256))[:1], []string{pattern(64)})
}

// P7.3: the chunks make up the bytes; all but the last one have 64 bytes, and that one has at least one.
func TestChunksMakeUpBytes(t *testing.T) {
	for n := range 1100 {
		data := pattern(n)
		l := value.Split(data)
		equal(t, fmt.Sprint("the chunks of ", n, " bytes, together"), strings.Join(l, ""), data)
		for i, s := range l {
			if i+1 < len(l) {
				equal(t, fmt.Sprint("the size of chunk ", i, " of ", n, " bytes"), len(s), 64)
			} else if len(s) < 1 || len(s) > 64 {
				t.Errorf("the last chunk of %d bytes has %d", n, len(s))
			}
		}
	}
}

// P7.3: where one byte differs, its chunk does, and no other one; where none differs, none does.
func TestChunksDiffer(t *testing.T) {
	for n := range 330 {
		data := pattern(n)
		l := value.Split(data)
		list(t, fmt.Sprint("the chunks of other ", n, " bytes that are equal"), value.Split(strings.Clone(data)), l)
		for i := range n {
			b := []byte(data)
			b[i] ^= 1 << (i % 8)
			for k, s := range value.Split(string(b)) {
				equal(t, fmt.Sprint("whether chunk ", k, " of ", n, " bytes stays where byte ", i, " differs"), s == l[k], k != i/64)
			}
		}
	}
}

// some returns a value that is valid.
func some(g *rand.Rand) api.Value {
	if g.Intn(8) == 0 {
		return dir(0)
	}
	v := file(g.Intn(257))
	for range chunksOf(v.Size) {
		v.Chunks = append(v.Chunks, 1+g.Uint32()>>(1+g.Intn(31)))
	}
	return v
}

// someContent returns a content that is valid.
func someContent(g *rand.Rand) value.Content {
	if g.Intn(8) == 0 {
		return value.Content{Dir: true}
	}
	b := make([]byte, g.Intn(257))
	g.Read(b)
	return bytes(string(b))
}

// P7.4: what is put is taken as it was, one after the other, and what follows is left.
func TestPutAndTake(t *testing.T) {
	g := rand.New(rand.NewSource(7))
	for range 400 {
		var w codec.Writer
		var vs []api.Value
		var cs []value.Content
		for range 1 + g.Intn(5) {
			v, c := some(g), someContent(g)
			s, e := value.Put(v)
			equal(t, fmt.Sprintf("Put of %v", v), e, api.OK)
			w.Raw(s)
			s, e = value.PutContent(c)
			equal(t, fmt.Sprintf("PutContent of %v", c), e, api.OK)
			w.Raw(s)
			vs, cs = append(vs, v), append(cs, c)
		}
		w.Raw("rest")
		r := codec.Read(w.Bytes())
		for i := range vs {
			v, e := value.Take(r)
			alike(t, "Take of what was put", v, vs[i])
			equal(t, "Take of what was put", e, api.OK)
			c, e := value.TakeContent(r)
			equal(t, "TakeContent of what was put", c, cs[i])
			equal(t, "TakeContent of what was put", e, api.OK)
		}
		equal(t, "what follows", r.Rest(), "rest")
	}
}

// code returns bytes that often are an encoding, or nearly so.
func code(g *rand.Rand) string {
	b := make([]byte, g.Intn(24))
	for i := range b {
		b[i] = byte(g.Intn(3))
	}
	if len(b) > 2 {
		b[0], b[1], b[2] = byte(g.Intn(8)/6), byte(g.Intn(8)/7), byte(g.Intn(256)>>g.Intn(9))
	}
	return string(b)
}

// P7.4: what is taken is valid, and has the encoding that it was taken from.
func TestTakeAndPut(t *testing.T) {
	g := rand.New(rand.NewSource(74))
	taken, takenContent := 0, 0
	for range 60000 {
		s := code(g)
		r := codec.Read(s)
		if v, e := value.Take(r); e == api.OK {
			taken++
			checks(t, v, api.OK)
			again, _ := value.Put(v)
			equal(t, "Put of what was taken, and the rest", again+r.Rest(), s)
		}
		r = codec.Read(s)
		if c, e := value.TakeContent(r); e == api.OK {
			takenContent++
			again, _ := value.PutContent(c)
			equal(t, "PutContent of what was taken, and the rest", again+r.Rest(), s)
		}
	}
	if taken < 6000 || takenContent < 6000 {
		t.Errorf("only %d values and %d contents were taken", taken, takenContent)
	}
}
