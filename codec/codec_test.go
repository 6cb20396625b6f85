package codec_test

import (
	"fmt"
	"math"
	"math/rand"
	"strings"
	"testing"

	"revert/api"
	"revert/codec"
)

// varOf returns the encoding of a var number.
func varOf(n uint32) string {
	var w codec.Writer
	w.Var(n)
	return w.Bytes()
}

// same fails the test unless got and want are equal.
func same[T comparable](t *testing.T, what string, got, want T) {
	t.Helper()
	if got != want {
		t.Errorf("%s: got %#v, want %#v", what, got, want)
	}
}

// broken fails the test unless every method of r answers what it answers after the error e.
func broken(t *testing.T, what string, r *codec.Reader, e api.Errno) {
	t.Helper()
	for range 2 { // the second time, after all other calls
		same(t, what+": Err", r.Err(), e)
		same(t, what+": End", r.End(), e)
		same(t, what+": Rest", r.Rest(), "")
		same(t, what+": U8", r.U8(), 0)
		same(t, what+": U16", r.U16(), 0)
		same(t, what+": U32", r.U32(), 0)
		same(t, what+": Var", r.Var(), 0)
		same(t, what+": Text", r.Text(), "")
		for _, n := range []int{math.MinInt, -1, 0, 1, math.MaxInt} {
			same(t, what+": Fixed", r.Fixed(n), "")
		}
	}
}

// step is something that is written, and read again.
type step struct {
	name  string
	write func(w *codec.Writer)
	read  func(r *codec.Reader) bool // whether the same was read
}

func u8(n uint8) step {
	return step{fmt.Sprint("U8 ", n), func(w *codec.Writer) { w.U8(n) }, func(r *codec.Reader) bool { return r.U8() == n }}
}

func u16(n uint16) step {
	return step{fmt.Sprint("U16 ", n), func(w *codec.Writer) { w.U16(n) }, func(r *codec.Reader) bool { return r.U16() == n }}
}

func u32(n uint32) step {
	return step{fmt.Sprint("U32 ", n), func(w *codec.Writer) { w.U32(n) }, func(r *codec.Reader) bool { return r.U32() == n }}
}

func varNumber(n uint32) step {
	return step{fmt.Sprint("Var ", n), func(w *codec.Writer) { w.Var(n) }, func(r *codec.Reader) bool { return r.Var() == n }}
}

func raw(s string) step {
	return step{fmt.Sprintf("Raw %q", s), func(w *codec.Writer) { w.Raw(s) }, func(r *codec.Reader) bool { return r.Fixed(len(s)) == s }}
}

func text(s string) step {
	return step{fmt.Sprintf("Text %q", s), func(w *codec.Writer) { w.Text(s) }, func(r *codec.Reader) bool { return r.Text() == s }}
}

// randomStep returns a step with any numbers and bytes, short numbers as often as long ones.
func randomStep(g *rand.Rand) step {
	n := g.Uint32() >> g.Intn(32)
	b := make([]byte, g.Intn(4)*g.Intn(60))
	g.Read(b)
	return []step{u8(uint8(n)), u16(uint16(n)), u32(n), varNumber(n), raw(string(b)), text(string(b))}[g.Intn(6)]
}

// edges are numbers at which encodings of var numbers get longer, and their neighbours.
var edges = []struct {
	n    uint32
	code string
}{
	{0, "\x00"},
	{1, "\x01"},
	{127, "\x7f"},
	{128, "\x80\x01"},
	{129, "\x81\x01"},
	{255, "\xff\x01"},
	{256, "\x80\x02"},
	{300, "\xac\x02"},
	{1<<14 - 1, "\xff\x7f"},
	{1 << 14, "\x80\x80\x01"},
	{1<<21 - 1, "\xff\xff\x7f"},
	{1 << 21, "\x80\x80\x80\x01"},
	{1<<28 - 1, "\xff\xff\xff\x7f"},
	{1 << 28, "\x80\x80\x80\x80\x01"},
	{1<<31 - 1, "\xff\xff\xff\xff\x07"},
	{1 << 31, "\x80\x80\x80\x80\x08"},
	{1<<32 - 1, "\xff\xff\xff\xff\x0f"},
}

// The chapter's examples.
func TestExamples(t *testing.T) {
	var w codec.Writer
	w.U16(258)
	w.Var(5)
	w.Var(128)
	w.Var(300)
	w.Text("ab")
	w.Raw("c")
	same(t, "Bytes", w.Bytes(), "\x01\x02\x05\x80\x01\xac\x02\x02\x61\x62\x63")

	for _, x := range []struct {
		code string
		n    uint32
		e    api.Errno
	}{
		{"\x80\x00", 0, api.ErrForm},
		{"\xff\xff\xff\xff\x0f", 4294967295, api.OK},
		{"\xff\xff\xff\xff\x10", 0, api.ErrForm},
		{"\x80", 0, api.ErrTorn},
	} {
		r := codec.Read(x.code)
		same(t, fmt.Sprintf("Var of %x", x.code), r.Var(), x.n)
		same(t, fmt.Sprintf("Err of %x", x.code), r.Err(), x.e)
	}

	r := codec.Read("\x02a")
	same(t, "Text of 02 61", r.Text(), "")
	same(t, "Err of 02 61", r.Err(), api.ErrTorn)
	r = codec.Read("\x02abc")
	same(t, "Text of 02 61 62 63", r.Text(), "ab")
	same(t, "Rest of 02 61 62 63", r.Rest(), "c")
	same(t, "End of 02 61 62 63", r.End(), api.ErrForm)

	same(t, "Fixed(2)", codec.Read("abc").Fixed(2), "ab")
	same(t, "Fixed(-1)", codec.Read("abc").Fixed(-1), "")
	r = codec.Read("abc")
	same(t, "Fixed(9)", r.Fixed(9), "")
	same(t, "Err of Fixed(9)", r.Err(), api.ErrTorn)
}

// P1.1: each method of a Writer appends the encoding of its argument.
func TestWriter(t *testing.T) {
	long := strings.Repeat("x", 300)
	for _, x := range []struct {
		name  string
		write func(w *codec.Writer)
		code  string
	}{
		{"nothing", func(w *codec.Writer) {}, ""},
		{"U8 0", func(w *codec.Writer) { w.U8(0) }, "\x00"},
		{"U8 255", func(w *codec.Writer) { w.U8(255) }, "\xff"},
		{"U16 0", func(w *codec.Writer) { w.U16(0) }, "\x00\x00"},
		{"U16 1", func(w *codec.Writer) { w.U16(1) }, "\x00\x01"},
		{"U16 65534", func(w *codec.Writer) { w.U16(65534) }, "\xff\xfe"},
		{"U32 0", func(w *codec.Writer) { w.U32(0) }, "\x00\x00\x00\x00"},
		{"U32 01020304", func(w *codec.Writer) { w.U32(0x01020304) }, "\x01\x02\x03\x04"},
		{"U32 fffefdfc", func(w *codec.Writer) { w.U32(0xfffefdfc) }, "\xff\xfe\xfd\xfc"},
		{"Raw empty", func(w *codec.Writer) { w.Raw("") }, ""},
		{"Raw", func(w *codec.Writer) { w.Raw("a\x00\xff") }, "a\x00\xff"},
		{"Text empty", func(w *codec.Writer) { w.Text("") }, "\x00"},
		{"Text", func(w *codec.Writer) { w.Text("a\x00\xff") }, "\x03a\x00\xff"},
		{"Text of 300 bytes", func(w *codec.Writer) { w.Text(long) }, "\xac\x02" + long},
		{"several", func(w *codec.Writer) { w.U8(7); w.Text("a"); w.Raw(""); w.Var(0); w.U16(9) }, "\x07\x01a\x00\x00\x09"},
	} {
		var w codec.Writer
		same(t, x.name+": Bytes of the zero value", w.Bytes(), "")
		x.write(&w)
		same(t, x.name, w.Bytes(), x.code)
		same(t, x.name+", asked again", w.Bytes(), x.code)
		x.write(&w)
		same(t, x.name+", twice", w.Bytes(), x.code+x.code)
	}
	for _, x := range edges {
		same(t, fmt.Sprint("Var ", x.n), varOf(x.n), x.code)
	}
}

// P1.1: for a nil Writer nothing is done.
func TestNilWriter(t *testing.T) {
	var w *codec.Writer
	w.U8(1)
	w.U16(1)
	w.U32(1)
	w.Var(1 << 30)
	w.Raw("a")
	w.Text("a")
	same(t, "Bytes", w.Bytes(), "")
}

// P1.1: what a Writer has written does not depend on its copies, whichever of them writes next.
func TestWriterCopies(t *testing.T) {
	for n := range 40 { // as long as spare capacity comes and goes
		var w codec.Writer
		w.Raw(strings.Repeat("-", n))
		start := w.Bytes()
		short, other := w, w
		w.Raw("ab")
		long := w
		other.U8('c')
		w = short
		w.Raw("xyz")
		same(t, "the copy that writes nothing", short.Bytes(), start)
		same(t, "a copy that writes", other.Bytes(), start+"c")
		same(t, "a copy made later", long.Bytes(), start+"ab")
		same(t, "the writer, set back", w.Bytes(), start+"xyz")
	}
}

// P1.2: numbers of fixed widths and numbers of bytes are read one after the other, and passed.
func TestRead(t *testing.T) {
	r := codec.Read("\xfe\x01\x02\xff\xfe\xfd\xfcabc\xac\x02\x02\x00\xffz")
	same(t, "U8", r.U8(), 0xfe)
	same(t, "U16", r.U16(), 0x0102)
	same(t, "U32", r.U32(), 0xfffefdfc)
	same(t, "Fixed 0", r.Fixed(0), "")
	same(t, "Fixed -1", r.Fixed(-1), "")
	same(t, "Fixed of the least int", r.Fixed(math.MinInt), "")
	same(t, "Rest after nothing was read", r.Rest(), "abc\xac\x02\x02\x00\xffz")
	same(t, "Fixed 3", r.Fixed(3), "abc")
	same(t, "Rest", r.Rest(), "\xac\x02\x02\x00\xffz")
	same(t, "Var", r.Var(), 300)
	same(t, "Text", r.Text(), "\x00\xff")
	same(t, "Rest after Text", r.Rest(), "z")
	same(t, "End before the end", r.End(), api.ErrForm)
	same(t, "Err after End", r.Err(), api.OK)
	same(t, "Fixed 1", r.Fixed(1), "z")
	same(t, "Rest at the end", r.Rest(), "")
	same(t, "End", r.End(), api.OK)
	same(t, "Fixed 0 at the end", r.Fixed(0), "")
	same(t, "Err", r.Err(), api.OK)
}

// P1.1, P1.2: the number of bytes of a string is not limited to 16 bits.
func TestLongText(t *testing.T) {
	long := strings.Repeat("0123456789", 7000)
	var w codec.Writer
	w.Text(long)
	w.U8(1)
	same(t, "the bytes ahead of the string", w.Bytes()[:3], "\xf0\xa2\x04")
	r := codec.Read(w.Bytes())
	same(t, "whether Text is what was written", r.Text() == long, true)
	same(t, "Rest", r.Rest(), "\x01")
}

// P1.2: where fewer bytes are left than a method needs, the error is ErrTorn.
func TestTorn(t *testing.T) {
	for _, x := range []struct {
		name string
		code string
		read func(r *codec.Reader) bool // whether the result is zero
	}{
		{"U8", "", func(r *codec.Reader) bool { return r.U8() == 0 }},
		{"U16", "", func(r *codec.Reader) bool { return r.U16() == 0 }},
		{"U16", "\x01", func(r *codec.Reader) bool { return r.U16() == 0 }},
		{"U32", "", func(r *codec.Reader) bool { return r.U32() == 0 }},
		{"U32", "\x01\x02\x03", func(r *codec.Reader) bool { return r.U32() == 0 }},
		{"Var", "", func(r *codec.Reader) bool { return r.Var() == 0 }},
		{"Var", "\x81", func(r *codec.Reader) bool { return r.Var() == 0 }},
		{"Var", "\x80\x80\x80\x80", func(r *codec.Reader) bool { return r.Var() == 0 }},
		{"Fixed 1", "", func(r *codec.Reader) bool { return r.Fixed(1) == "" }},
		{"Fixed 4", "abc", func(r *codec.Reader) bool { return r.Fixed(4) == "" }},
		{"Fixed of the greatest int", "abc", func(r *codec.Reader) bool { return r.Fixed(math.MaxInt) == "" }},
		{"Text", "", func(r *codec.Reader) bool { return r.Text() == "" }},
		{"Text", "\x80", func(r *codec.Reader) bool { return r.Text() == "" }},
		{"Text", "\x01", func(r *codec.Reader) bool { return r.Text() == "" }},
		{"Text", "\x03ab", func(r *codec.Reader) bool { return r.Text() == "" }},
		{"Text", "\x80\x01" + strings.Repeat("a", 127), func(r *codec.Reader) bool { return r.Text() == "" }},
		{"Text", "\x82\x80\x04ab", func(r *codec.Reader) bool { return r.Text() == "" }},
		{"Text of the greatest length", "\xff\xff\xff\xff\x0fab", func(r *codec.Reader) bool { return r.Text() == "" }},
	} {
		what := fmt.Sprintf("%s of %x", x.name, x.code)
		r := codec.Read(x.code)
		same(t, what, x.read(r), true)
		broken(t, what, r, api.ErrTorn)
	}
}

// P1.2: the error is ErrForm for an encoding that is not valid, as soon as that is certain.
func TestVarForm(t *testing.T) {
	for _, code := range []string{
		"\x80\x00", "\xff\x00", "\x80\x80\x00", "\x81\x80\x80\x00", "\x80\x80\x80\x80\x00", "\xff\xff\xff\xff\x00",
		"\x80\x80\x80\x80\x80", "\xff\xff\xff\xff\xff", "\x80\x80\x80\x80\x81\x01", "\x80\x80\x80\x80\x8f\x00",
		"\x80\x80\x80\x80\x10", "\x80\x80\x80\x80\x7f", "\x80\x00\x01",
	} {
		what := fmt.Sprintf("Var of %x", code)
		r := codec.Read(code)
		same(t, what, r.Var(), 0)
		broken(t, what, r, api.ErrForm)
		r = codec.Read(code + "abc")
		same(t, "Text: "+what, r.Text(), "")
		broken(t, "Text: "+what, r, api.ErrForm)
	}
	for _, four := range []string{"\x80\x80\x80\x80", "\xff\xff\xff\xff"} {
		for last := range 256 {
			r := codec.Read(four + string([]byte{byte(last)}) + "a")
			n := r.Var()
			if last == 0 || last > 15 {
				same(t, fmt.Sprint("Var with the fifth byte ", last), n, 0)
				broken(t, fmt.Sprint("fifth byte ", last), r, api.ErrForm)
				continue
			}
			same(t, fmt.Sprint("the high bits, with the fifth byte ", last), n>>28, uint32(last))
			same(t, fmt.Sprint("Rest, with the fifth byte ", last), r.Rest(), "a")
		}
	}
}

// P1.2: a 0 is a var number by itself, and only one byte of it is read.
func TestVarZero(t *testing.T) {
	r := codec.Read("\x00\x00")
	same(t, "Var", r.Var(), 0)
	same(t, "Err", r.Err(), api.OK)
	same(t, "Rest", r.Rest(), "\x00")
}

// P1.3: the first error stays, whatever would be the next one, and nothing is read after it.
func TestFirstError(t *testing.T) {
	r := codec.Read("ab")
	same(t, "U32", r.U32(), 0)
	broken(t, "U32 of ab", r, api.ErrTorn)

	r = codec.Read("\x05\x80\x00\x01\x01a")
	same(t, "U8", r.U8(), 5)
	same(t, "Var", r.Var(), 0)
	broken(t, "Var of 80 00", r, api.ErrForm)

	r = codec.Read("\x09\x80\x00")
	same(t, "Text", r.Text(), "")
	same(t, "Var", r.Var(), 0)
	broken(t, "Text, and Var of 80 00", r, api.ErrTorn)
}

// P1.3: for a nil Reader, all results are zero; Err and End return ErrNil.
func TestNilReader(t *testing.T) {
	broken(t, "nil", nil, api.ErrNil)
}

// P1.3: an empty string is read to its end at once.
func TestReadNothing(t *testing.T) {
	r := codec.Read("")
	same(t, "Err", r.Err(), api.OK)
	same(t, "Rest", r.Rest(), "")
	same(t, "End", r.End(), api.OK)
	same(t, "Fixed 0", r.Fixed(0), "")
	same(t, "End after Fixed 0", r.End(), api.OK)
}

// P1.2, P1.3: readers of the same string do not affect each other.
func TestReadersApart(t *testing.T) {
	const s = "\x01\x02"
	a, b := codec.Read(s), codec.Read(s)
	a.U32()
	same(t, "Err of the other reader", b.Err(), api.OK)
	same(t, "U16 of the other reader", b.U16(), 0x0102)
}

// reread checks that the steps read what they wrote, that the end is reached then, and that each proper prefix is torn.
func reread(t *testing.T, steps []step) {
	t.Helper()
	var w codec.Writer
	for _, s := range steps {
		s.write(&w)
	}
	all := w.Bytes()
	r := codec.Read(all)
	for i, s := range steps {
		if !s.read(r) || r.Err() != api.OK {
			t.Fatalf("step %d (%s) of %x: error %d", i, s.name, all, r.Err())
		}
	}
	same(t, "End", r.End(), api.OK)
	for n := range len(all) {
		r := codec.Read(all[:n])
		for _, s := range steps {
			s.read(r)
		}
		if r.Err() != api.ErrTorn {
			t.Fatalf("the first %d bytes of %x: error %d", n, all, r.Err())
		}
	}
}

// P1.4: what is written is read again; a proper prefix is torn.
func TestReread(t *testing.T) {
	reread(t, nil)
	for _, x := range edges {
		reread(t, []step{varNumber(x.n)})
		reread(t, []step{u8(uint8(x.n)), varNumber(x.n), u16(uint16(x.n)), u32(x.n)})
	}
	for _, n := range []int{0, 1, 2, 127, 128, 129, 300, 16384} {
		s := strings.Repeat("\x80", n)
		reread(t, []step{text(s)})
		reread(t, []step{raw(s), text(s), u8(0)})
	}
	g := rand.New(rand.NewSource(1))
	for range 400 {
		steps := make([]step, g.Intn(12))
		for i := range steps {
			steps[i] = randomStep(g)
		}
		reread(t, steps)
	}
}

// rewrite checks that what is read as a var number, written again, is the bytes that were read.
func rewrite(t *testing.T, s string) {
	t.Helper()
	r := codec.Read(s)
	n := r.Var()
	if r.Err() != api.OK {
		same(t, fmt.Sprintf("the result beside an error, of %x", s), n, 0)
		return
	}
	read := s[:len(s)-len(r.Rest())]
	if varOf(n) != read {
		t.Fatalf("%x was read as %d, which is written as %x", read, n, varOf(n))
	}
}

// P1.5: each number has one encoding.
func TestUnique(t *testing.T) {
	for n := range 1 << 16 {
		rewrite(t, string([]byte{byte(n >> 8), byte(n)}))
		rewrite(t, string([]byte{0x80 | byte(n>>12), byte(n >> 4), byte(n << 4)}))
	}
	some := []byte{0x00, 0x01, 0x0f, 0x10, 0x7f, 0x80, 0x81, 0x8f, 0xff}
	codes := []string{""}
	for range 5 {
		var longer []string
		for _, c := range codes {
			for _, b := range some {
				longer = append(longer, c+string([]byte{b}))
			}
		}
		for _, c := range longer {
			rewrite(t, c)
		}
		codes = longer
	}
}

// P1.5: a greater number has an encoding that is not shorter; all of them have at most 5 bytes.
func TestLengths(t *testing.T) {
	last := 1
	check := func(n uint32) {
		t.Helper()
		l := len(varOf(n))
		if l < last || l > 5 {
			t.Fatalf("%d has %d bytes, a smaller number %d", n, l, last)
		}
		last = l
	}
	for n := range uint32(1 << 15) {
		check(n)
	}
	for bit := 15; bit < 32; bit++ {
		for _, n := range []uint32{0, 1, 1<<bit - 1} {
			check(1<<bit + n)
		}
	}
	same(t, "bytes of the greatest number", last, 5)
}

// A Writer takes time in proportion to what is written, also byte by byte.
func TestManyWrites(t *testing.T) {
	const n = 1 << 20
	var w codec.Writer
	for i := range n {
		w.U8(uint8(i))
	}
	r := codec.Read(w.Bytes())
	for i := range n {
		if r.U8() != uint8(i) {
			t.Fatal("byte ", i)
		}
	}
	same(t, "End", r.End(), api.OK)
}

// Whatever is read by whatever calls, none panics, and an error stays.
func FuzzRead(f *testing.F) {
	for _, s := range []string{"", "\x00", "\x80\x00", "\x02ab", "\xff\xff\xff\xff\x10", "\xff\xff\xff\xff\x0f"} {
		f.Add(s, "\x00\x01\x02\x03\x04\x05")
	}
	f.Fuzz(func(t *testing.T, s, calls string) {
		r := codec.Read(s)
		for _, c := range []byte(calls) {
			before := r.Err()
			switch c % 6 {
			case 0:
				r.U8()
			case 1:
				r.U16()
			case 2:
				r.U32()
			case 3:
				r.Var()
			case 4:
				r.Text()
			case 5:
				r.Fixed(int(int8(c)))
			}
			if before != api.OK && r.Err() != before || !strings.HasSuffix(s, r.Rest()) {
				t.Fatalf("call %d: error %d, then %d, rest %x", c, before, r.Err(), r.Rest())
			}
		}
	})
}
