package vector_test

import (
	"fmt"
	"math"
	"math/rand"
	"slices"
	"testing"

	"revert/api"
	"revert/codec"
	"revert/vector"
)

// same fails the test unless got and want are equal.
func same[T comparable](t *testing.T, what string, got, want T) {
	t.Helper()
	if got != want {
		t.Errorf("%s: got %#v, want %#v", what, got, want)
	}
}

// of returns the vector with these numbers, and 0 for the other replicas.
func of(n ...uint32) api.Vector {
	var v api.Vector
	copy(v[:], n)
	return v
}

// at returns the vector in which replica r has n, and the others have rest.
func at(r int, n, rest uint32) api.Vector {
	v := of(rest, rest, rest, rest, rest, rest, rest, rest)
	v[r] = n
	return v
}

func dot(r uint8, n uint32) api.Dot { return api.Dot{R: r, N: n} }

// edges are numbers at the ends of what is valid, beyond them, and where an encoding gets longer.
var edges = []uint32{0, 1, 2, 127, 128, 300, 16383, 16384, 65534, 65535, 65536, 65537, 1 << 17, math.MaxInt32, 1 << 31, math.MaxUint32 - 1, math.MaxUint32}

// valid tells of each number whether a vector may have it.
func valid(n uint32) bool { return n < 65536 }

// nexts fails the test unless Next(v, r) returns this.
func nexts(t *testing.T, v api.Vector, r uint8, want api.Vector, wantD api.Dot, wantE api.Errno) {
	t.Helper()
	what := fmt.Sprintf("Next(%v, %d)", v, r)
	got, d, e := vector.Next(v, r)
	same(t, what, got, want)
	same(t, what, d, wantD)
	same(t, what, e, wantE)
}

// gives fails the test unless these are the result and the error that are wanted.
func gives[T comparable](t *testing.T, what string, got T, e api.Errno, want T, wantE api.Errno) {
	t.Helper()
	same(t, what, got, want)
	same(t, what, e, wantE)
}

// puts fails the test unless Put(v) returns this.
func puts(t *testing.T, v api.Vector, want string, wantE api.Errno) {
	t.Helper()
	s, e := vector.Put(v)
	gives(t, fmt.Sprintf("Put of %v", v), s, e, want, wantE)
}

// putsDot fails the test unless PutDot(d) returns this.
func putsDot(t *testing.T, d api.Dot, want string, wantE api.Errno) {
	t.Helper()
	s, e := vector.PutDot(d)
	gives(t, fmt.Sprintf("PutDot of %v", d), s, e, want, wantE)
}

// after fails the test unless r has this rest, and no error of its own.
func after(t *testing.T, what string, r *codec.Reader, rest string) {
	t.Helper()
	same(t, what+": Err of the reader", r.Err(), api.OK)
	same(t, what+": Rest of the reader", r.Rest(), rest)
}

// takes fails the test unless Take of code returns this, and leaves rest.
func takes(t *testing.T, code string, want api.Vector, wantE api.Errno, rest string) {
	t.Helper()
	what := fmt.Sprintf("Take of %x", code)
	r := codec.Read(code)
	v, e := vector.Take(r)
	gives(t, what, v, e, want, wantE)
	after(t, what, r, rest)
}

// takesDot fails the test unless TakeDot of code returns this, and leaves rest.
func takesDot(t *testing.T, code string, want api.Dot, wantE api.Errno, rest string) {
	t.Helper()
	what := fmt.Sprintf("TakeDot of %x", code)
	r := codec.Read(code)
	d, e := vector.TakeDot(r)
	gives(t, what, d, e, want, wantE)
	after(t, what, r, rest)
}

// breaks fails the test unless Take returns the reader's error.
func breaks(t *testing.T, what string, r *codec.Reader, want api.Errno) {
	t.Helper()
	v, e := vector.Take(r)
	gives(t, "Take of "+what, v, e, of(), want)
	same(t, "Err of "+what, r.Err(), want)
}

// breaksDot fails the test unless TakeDot returns the reader's error.
func breaksDot(t *testing.T, what string, r *codec.Reader, want api.Errno) {
	t.Helper()
	d, e := vector.TakeDot(r)
	gives(t, "TakeDot of "+what, d, e, dot(0, 0), want)
	same(t, "Err of "+what, r.Err(), want)
}

// The chapter's examples.
func TestExamples(t *testing.T) {
	same(t, "Join", vector.Join(of(1, 2), of(3, 1)), of(3, 2))
	same(t, "Cmp of 1 2 and 3 1", vector.Cmp(of(1, 2), of(3, 1)), vector.Apart)
	same(t, "Cmp of 1 2 and 1 2", vector.Cmp(of(1, 2), of(1, 2)), vector.Same)
	same(t, "Cmp of 1 2 and 1 3", vector.Cmp(of(1, 2), of(1, 3)), vector.Before)
	same(t, "Cmp of 1 2 and 0 2", vector.Cmp(of(1, 2), of(0, 2)), vector.After)
	same(t, "Has dot 1 2", vector.Has(of(1, 2), dot(1, 2)), true)
	same(t, "Has dot 1 3", vector.Has(of(1, 2), dot(1, 3)), false)
	same(t, "Has dot 0 0", vector.Has(of(1, 2), dot(0, 0)), false)
	same(t, "Has dot 8 1", vector.Has(of(1, 2), dot(8, 1)), false)
	nexts(t, of(1, 2), 0, of(3, 2), dot(0, 3), api.OK)
	nexts(t, of(1, 2), 1, of(1, 3), dot(1, 3), api.OK)
	nexts(t, of(0, 65535), 0, of(), dot(0, 0), api.ErrCount)
	nexts(t, of(), 8, of(), dot(0, 0), api.ErrArg)
	puts(t, of(1, 300), "\x03\x01\xac\x02", api.OK)
	puts(t, of(), "\x00", api.OK)
	putsDot(t, dot(2, 5), "\x02\x05", api.OK)
	putsDot(t, dot(0, 0), "", api.ErrForm)
	takes(t, "\x03\x01\x00", of(), api.ErrForm, "")
	takes(t, "\x01\xff\xff\x03", of(65535), api.OK, "")
	takes(t, "\x01\x80\x80\x04", of(), api.ErrForm, "")
	breaks(t, "03 01", codec.Read("\x03\x01"), api.ErrTorn)
}

// P5.1: the results of Cmp are the numbers that the chapter gives them.
func TestResults(t *testing.T) {
	for want, got := range []int{vector.Same, vector.Before, vector.After, vector.Apart} {
		same(t, "the number of a result", got, want)
	}
}

// P5.1: each replica by itself has the greater number in a join, whether the vectors are valid or not.
func TestJoin(t *testing.T) {
	for r := range 8 {
		for _, m := range edges {
			for _, n := range edges {
				want := at(r, max(m, n), 9)
				same(t, fmt.Sprint("Join of ", m, " and ", n, " for replica ", r), vector.Join(at(r, m, 4), at(r, n, 9)), want)
				same(t, fmt.Sprint("Join of ", m, " and ", n, " for replica ", r), vector.Join(at(r, m, 9), at(r, n, 4)), want)
			}
		}
	}
	same(t, "Join", vector.Join(of(1, 9, 3, 9, 5, 9, 7, 9), of(8, 2, 8, 4, 8, 6, 8, 8)), of(8, 9, 8, 9, 8, 9, 8, 9))
}

// P5.1: one replica suffices to make a vector Before or After, two of them to make vectors Apart.
func TestCmp(t *testing.T) {
	for r := range 8 {
		for _, m := range edges {
			for _, n := range edges {
				want := vector.Same
				if m < n {
					want = vector.Before
				} else if m > n {
					want = vector.After
				}
				same(t, fmt.Sprint("Cmp of ", m, " and ", n, " for replica ", r), vector.Cmp(at(r, m, 7), at(r, n, 7)), want)
			}
		}
		for q := range 8 {
			if q == r {
				continue
			}
			a, b := at(r, 8, 7), at(q, 8, 7)
			same(t, fmt.Sprint("Cmp of ", a, " and ", b), vector.Cmp(a, b), vector.Apart)
			a, b = at(r, math.MaxUint32, 0), at(q, 1, 0)
			same(t, fmt.Sprint("Cmp of ", a, " and ", b), vector.Cmp(a, b), vector.Apart)
			a, b = at(r, 6, 7), at(q, 6, 7)
			same(t, fmt.Sprint("Cmp of ", a, " and ", b), vector.Cmp(a, b), vector.Apart)
			b = a
			b[q] = 6
			same(t, fmt.Sprint("Cmp of ", a, " and ", b), vector.Cmp(a, b), vector.After)
			same(t, fmt.Sprint("Cmp of ", b, " and ", a), vector.Cmp(b, a), vector.Before)
		}
	}
}

// P5.1: a vector has the valid dots whose numbers are at most the number of their replica.
func TestHas(t *testing.T) {
	for r := range 256 {
		for _, m := range edges {
			for _, n := range edges {
				d := dot(uint8(r), n)
				want := r < 8 && n > 0 && valid(n) && n <= m
				same(t, fmt.Sprint("Has dot ", d, ", each number being ", m), vector.Has(of(m, m, m, m, m, m, m, m), d), want)
				if r < 8 {
					same(t, fmt.Sprint("Has dot ", d, ", only its number being ", m), vector.Has(at(r, m, 0), d), want)
					same(t, fmt.Sprint("Has dot ", d, ", all other numbers being ", m), vector.Has(at(r, 0, m), d), false)
				}
			}
		}
	}
}

// P5.2: the next number is one above all numbers, not only that of the replica; the others stay.
func TestNext(t *testing.T) {
	for r := range uint8(8) {
		nexts(t, of(), r, at(int(r), 1, 0), dot(r, 1), api.OK)
		for q := range 8 {
			v := of(3, 1, 4, 1, 5, 2, 6, 5)
			v[q] = 100
			want := v
			want[r] = 101
			nexts(t, v, r, want, dot(r, 101), api.OK)
		}
	}
}

// P5.2: 65535 is the greatest number that is given out, and where it is there is no next one.
func TestNextCount(t *testing.T) {
	for r := range uint8(8) {
		for q := range 8 {
			v := at(q, 65534, 1)
			want := v
			want[r] = 65535
			nexts(t, v, r, want, dot(r, 65535), api.OK)
			for _, n := range []uint32{65535, 65536, 1 << 17, 1 << 31, math.MaxUint32} {
				nexts(t, at(q, n, 0), r, of(), dot(0, 0), api.ErrCount)
				nexts(t, at(q, n, 65534), r, of(), dot(0, 0), api.ErrCount)
			}
		}
	}
}

// P5.2: a replica that there is not comes ahead of numbers that are too great.
func TestNextArg(t *testing.T) {
	for r := 8; r < 256; r++ {
		for _, n := range edges {
			nexts(t, at(r%8, n, 0), uint8(r), of(), dot(0, 0), api.ErrArg)
		}
	}
}

// P5.3: each replica has its bit, and the numbers are in the order of the replicas.
func TestPut(t *testing.T) {
	for r := range 8 {
		bit := string([]byte{1 << r})
		puts(t, at(r, 1, 0), bit+"\x01", api.OK)
		puts(t, at(r, 127, 0), bit+"\x7f", api.OK)
		puts(t, at(r, 128, 0), bit+"\x80\x01", api.OK)
		puts(t, at(r, 16383, 0), bit+"\xff\x7f", api.OK)
		puts(t, at(r, 16384, 0), bit+"\x80\x80\x01", api.OK)
		puts(t, at(r, 65535, 0), bit+"\xff\xff\x03", api.OK)
	}
	puts(t, of(1, 2, 3, 4, 5, 6, 7, 8), "\xff\x01\x02\x03\x04\x05\x06\x07\x08", api.OK)
	puts(t, of(0, 128, 0, 0, 5, 0, 0, 9), "\x92\x80\x01\x05\x09", api.OK)
}

// P5.3: only what is valid is encoded, whichever number is the wrong one.
func TestPutWrong(t *testing.T) {
	for r := range 8 {
		for _, n := range edges {
			if valid(n) {
				continue
			}
			puts(t, at(r, n, 0), "", api.ErrForm)
			puts(t, at(r, n, 65535), "", api.ErrForm)
		}
	}
}

// P5.3: a dot is its replica as a byte, and its number.
func TestPutDot(t *testing.T) {
	for r := range uint8(8) {
		byteOf := string([]byte{r})
		putsDot(t, dot(r, 1), byteOf+"\x01", api.OK)
		putsDot(t, dot(r, 127), byteOf+"\x7f", api.OK)
		putsDot(t, dot(r, 128), byteOf+"\x80\x01", api.OK)
		putsDot(t, dot(r, 65535), byteOf+"\xff\xff\x03", api.OK)
	}
	for r := range 256 {
		for _, n := range edges {
			if r > 7 || n == 0 || !valid(n) {
				putsDot(t, dot(uint8(r), n), "", api.ErrForm)
			}
		}
	}
}

// P5.3: what follows a vector is left in the reader.
func TestTake(t *testing.T) {
	takes(t, "\x00", of(), api.OK, "")
	takes(t, "\x00\x01\x02", of(), api.OK, "\x01\x02")
	takes(t, "\x80\x05\x06", of(0, 0, 0, 0, 0, 0, 0, 5), api.OK, "\x06")
	takes(t, "\xff\x01\x02\x03\x04\x05\x06\x07\x08\x09", of(1, 2, 3, 4, 5, 6, 7, 8), api.OK, "\x09")
	r := codec.Read("\x01\x02\x02\x03\x07\x09z")
	for _, want := range []api.Vector{of(2), of(0, 3)} {
		v, e := vector.Take(r)
		gives(t, "Take, one after the other", v, e, want, api.OK)
	}
	d, e := vector.TakeDot(r)
	gives(t, "TakeDot after two vectors", d, e, dot(7, 9), api.OK)
	after(t, "two vectors and a dot", r, "z")
}

// P5.3: all that the byte indicates is read before it is judged, and the reader is after it.
func TestTakeForm(t *testing.T) {
	for r := range 8 {
		bit := string([]byte{1 << r})
		takes(t, bit+"\x00abc", of(), api.ErrForm, "abc")
		takes(t, bit+"\x80\x80\x04abc", of(), api.ErrForm, "abc")
		takes(t, bit+"\xff\xff\xff\xff\x0fabc", of(), api.ErrForm, "abc")
		all := []byte("\xff\x01\x02\x03\x04\x05\x06\x07\x08z")
		all[1+r] = 0
		takes(t, string(all), of(), api.ErrForm, "z")
		great := "\xff" + string(all[1:1+r]) + "\x80\x80\x04" + string(all[2+r:])
		takes(t, great, of(), api.ErrForm, "z")
	}
	takes(t, "\x03\x00\x00ab", of(), api.ErrForm, "ab")
	takes(t, "\x07\x00\x80\x80\x04\x05", of(), api.ErrForm, "")
}

// P5.3: the reader's error comes ahead of what would be wrong with the vector.
func TestTakeError(t *testing.T) {
	for _, code := range []string{"", "\x01", "\x80", "\x01\x80", "\x03\x00", "\x03\x80\x80\x04", "\x03\x01\x80", "\xff\x01\x02\x03\x04\x05\x06\x07"} {
		breaks(t, fmt.Sprintf("%x", code), codec.Read(code), api.ErrTorn)
	}
	for _, code := range []string{"\x01\x80\x00", "\x03\x00\x80\x00", "\x01\xff\xff\xff\xff\x10", "\x03\x01\x80\x80\x80\x80\x80", "\x03\x80\x00"} {
		r := codec.Read(code + "abc")
		breaks(t, fmt.Sprintf("%x", code), r, api.ErrForm)
		same(t, fmt.Sprintf("Rest of %x", code), r.Rest(), "")
	}
}

// P5.3: what follows a dot is left in the reader.
func TestTakeDot(t *testing.T) {
	for r := range uint8(8) {
		byteOf := string([]byte{r})
		takesDot(t, byteOf+"\x01", dot(r, 1), api.OK, "")
		takesDot(t, byteOf+"\x80\x01ab", dot(r, 128), api.OK, "ab")
		takesDot(t, byteOf+"\xff\xff\x03\x00", dot(r, 65535), api.OK, "\x00")
	}
}

// P5.3: a dot that is not valid has been read.
func TestTakeDotForm(t *testing.T) {
	for r := range 256 {
		byteOf := string([]byte{byte(r)})
		takesDot(t, byteOf+"\x00ab", dot(0, 0), api.ErrForm, "ab")
		takesDot(t, byteOf+"\x80\x80\x04ab", dot(0, 0), api.ErrForm, "ab")
		takesDot(t, byteOf+"\xff\xff\xff\xff\x0fab", dot(0, 0), api.ErrForm, "ab")
		if r > 7 {
			takesDot(t, byteOf+"\x01ab", dot(0, 0), api.ErrForm, "ab")
		}
	}
}

// P5.3: the reader's error comes ahead of what would be wrong with the dot.
func TestTakeDotError(t *testing.T) {
	for _, code := range []string{"", "\x00", "\x07", "\x08", "\xff", "\x00\x80", "\x08\xff\xff", "\x01\x80\x80\x80\x80"} {
		breaksDot(t, fmt.Sprintf("%x", code), codec.Read(code), api.ErrTorn)
	}
	for _, code := range []string{"\x00\x80\x00", "\x08\x80\x00", "\x01\xff\xff\xff\xff\x10", "\x01\x80\x80\x80\x80\x80"} {
		r := codec.Read(code + "abc")
		breaksDot(t, fmt.Sprintf("%x", code), r, api.ErrForm)
		same(t, fmt.Sprintf("Rest of %x", code), r.Rest(), "")
	}
}

// P5.3: an earlier error of the reader stays its error, and a nil reader has one.
func TestTakeEarlierError(t *testing.T) {
	torn := codec.Read("\x00\x01")
	torn.U32()
	breaks(t, "a reader with ErrTorn", torn, api.ErrTorn)
	breaksDot(t, "a reader with ErrTorn", torn, api.ErrTorn)
	wrong := codec.Read("\x80\x00\x01\x01")
	wrong.Var()
	breaks(t, "a reader with ErrForm", wrong, api.ErrForm)
	breaksDot(t, "a reader with ErrForm", wrong, api.ErrForm)
	breaks(t, "a nil reader", nil, api.ErrNil)
	breaksDot(t, "a nil reader", nil, api.ErrNil)
	breaks(t, "the zero value of a reader", &codec.Reader{}, api.ErrTorn)
	breaksDot(t, "the zero value of a reader", &codec.Reader{}, api.ErrTorn)
}

// small returns all vectors in which the first, the fourth and the last replica have numbers below 3, and the others none.
func small() []api.Vector {
	var all []api.Vector
	for n := range uint32(27) {
		all = append(all, of(n%3, 0, 0, n/3%3, 0, 0, 0, n/9))
	}
	return all
}

// random returns a vector with any numbers below 65536, small ones as often as great ones, and none for some replicas.
func random(g *rand.Rand) api.Vector {
	var v api.Vector
	for r := range v {
		v[r] = uint32(g.Intn(2)) * (g.Uint32() & 0xffff >> g.Intn(17))
	}
	return v
}

// covers reports whether b is not above a for any replica.
func covers(a, b api.Vector) bool {
	for r := range a {
		if b[r] > a[r] {
			return false
		}
	}
	return true
}

// kind returns what Cmp promises.
func kind(a, b api.Vector) int {
	switch {
	case a == b:
		return vector.Same
	case covers(b, a):
		return vector.Before
	case covers(a, b):
		return vector.After
	}
	return vector.Apart
}

// P5.4: Join is commutative, associative and idempotent, and Cmp of b and a is the converse of Cmp of a and b.
func TestLaws(t *testing.T) {
	converse := []int{vector.Same, vector.After, vector.Before, vector.Apart}
	g := rand.New(rand.NewSource(5))
	all := small()
	for range 20 {
		all = append(all, random(g))
	}
	for _, a := range all {
		same(t, fmt.Sprint("Join of twice ", a), vector.Join(a, a), a)
		for _, b := range all {
			both := vector.Join(a, b)
			k := vector.Cmp(a, b)
			same(t, fmt.Sprint("Cmp of ", a, b), k, kind(a, b))
			same(t, fmt.Sprint("Cmp of ", b, a), vector.Cmp(b, a), converse[k])
			same(t, fmt.Sprint("Join of ", b, a), vector.Join(b, a), both)
			for _, c := range all {
				same(t, fmt.Sprint("Join of ", a, b, c), vector.Join(a, vector.Join(b, c)), vector.Join(both, c))
			}
		}
	}
}

// notBefore reports whether Cmp tells that a is the same as b, or after it.
func notBefore(a, b api.Vector) bool {
	k := vector.Cmp(a, b)
	return k == vector.Same || k == vector.After
}

// P5.4: a join is not before its arguments, and every vector that is not before either is not before it.
func TestLeast(t *testing.T) {
	all := small()
	for _, a := range all {
		for _, b := range all {
			both := vector.Join(a, b)
			same(t, fmt.Sprint("Join of ", a, b, " is above both"), notBefore(both, a) && notBefore(both, b), true)
			for _, c := range all {
				if notBefore(c, a) && notBefore(c, b) {
					same(t, fmt.Sprint(c, " is above Join of ", a, b), notBefore(c, both), true)
				}
			}
		}
	}
}

// P5.5: a join has a dot if one of both vectors has it, and otherwise not.
func TestJoinHas(t *testing.T) {
	for _, a := range small() {
		for _, b := range small() {
			for r := range uint8(10) {
				for n := range uint32(4) {
					d := dot(r, n)
					want := vector.Has(a, d) || vector.Has(b, d)
					same(t, fmt.Sprint("Join of ", a, b, " has ", d), vector.Has(vector.Join(a, b), d), want)
				}
			}
		}
	}
}

// P5.5: a vector has its next dot, and any dot with a number as great, only after Next; then it has all that it had.
func TestNextHas(t *testing.T) {
	g := rand.New(rand.NewSource(55))
	for range 2000 {
		v, r := random(g), uint8(g.Intn(8))
		next, d, e := vector.Next(v, r)
		if slices.Max(v[:]) == 65535 {
			same(t, fmt.Sprint("Next of ", v), e, api.ErrCount)
			continue
		}
		same(t, fmt.Sprint("Next of ", v), e, api.OK)
		same(t, fmt.Sprint(next, " has ", d), vector.Has(next, d), true)
		same(t, fmt.Sprint(next, " after ", v), vector.Cmp(next, v), vector.After)
		for q := range uint8(8) {
			for _, n := range []uint32{d.N, d.N + 1, 65535} {
				same(t, fmt.Sprint(v, " has ", q, " ", n), vector.Has(v, dot(q, n)), false)
			}
		}
	}
}

// P5.5: Take of Put returns the vector, TakeDot of PutDot the dot, and a part of an encoding is torn.
func TestTakeOfPut(t *testing.T) {
	g := rand.New(rand.NewSource(555))
	for range 2000 {
		v := random(g)
		s, e := vector.Put(v)
		same(t, fmt.Sprint("Put of ", v), e, api.OK)
		takes(t, s+"z", v, api.OK, "z")
		for n := range len(s) {
			breaks(t, fmt.Sprintf("%x", s[:n]), codec.Read(s[:n]), api.ErrTorn)
		}
	}
	for r := range uint8(8) {
		for n := uint32(1); n < 65536; n++ {
			s, e := vector.PutDot(dot(r, n))
			same(t, fmt.Sprint("PutDot of ", r, " ", n), e, api.OK)
			takesDot(t, s, dot(r, n), api.OK, "")
		}
	}
}

// codes returns all strings of as many bytes at most, each byte one of those at which something changes.
func codes(longest int) []string {
	all := []string{""}
	for start, n := 0, 0; n < longest; n++ {
		end := len(all)
		for _, s := range all[start:end] {
			for _, b := range []byte{0, 1, 2, 3, 4, 7, 8, 15, 16, 127, 128, 129, 255} {
				all = append(all, s+string([]byte{b}))
			}
		}
		start = end
	}
	return all
}

// P5.5: each encoding is unique: what was read without an error is, written again, the bytes that were read.
func TestUnique(t *testing.T) {
	for _, code := range codes(4) {
		r := codec.Read(code)
		if v, e := vector.Take(r); e == api.OK {
			puts(t, v, code[:len(code)-len(r.Rest())], api.OK)
		}
		r = codec.Read(code)
		if d, e := vector.TakeDot(r); e == api.OK {
			putsDot(t, d, code[:len(code)-len(r.Rest())], api.OK)
		}
	}
}
