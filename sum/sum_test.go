package sum_test

import (
	"math"
	"math/big"
	"math/rand"
	"strings"
	"sync"
	"testing"

	"revert/sum"
)

const modulus = 65535

// same fails the test unless got and want are equal.
func same(t *testing.T, what string, got, want uint32) {
	t.Helper()
	if got != want {
		t.Errorf("%s: got %08x, want %08x", what, got, want)
	}
}

// halves returns the sums that n represents.
func halves(n uint32) (first, second uint64) {
	return uint64(n&0xffff) % modulus, uint64(n>>16) % modulus
}

// model returns what Update promises, worked out without reducing the sums in between: each byte is in the second sum as often as bytes follow, itself included.
func model(n uint32, s string) uint32 {
	first, second := halves(n)
	all, weighted := new(big.Int).SetUint64(first), new(big.Int)
	weighted.SetUint64(second + first*uint64(len(s)))
	for i := range len(s) {
		all.Add(all, big.NewInt(int64(s[i])))
		weighted.Add(weighted, big.NewInt(int64(s[i])*int64(len(s)-i)))
	}
	m := big.NewInt(modulus)
	return uint32(weighted.Mod(weighted, m).Uint64()<<16 | all.Mod(all, m).Uint64())
}

// joined returns what Join promises, worked out in big numbers.
func joined(a, b uint32, n int) uint32 {
	a0, a1 := halves(a)
	b0, b1 := halves(b)
	m := big.NewInt(modulus)
	first := big.NewInt(int64(a0) + int64(b0) - 1)
	second := big.NewInt(int64(max(n, 0)))
	second.Mul(second, big.NewInt(int64(a0)-1))
	second.Add(second, big.NewInt(int64(a1+b1)))
	return uint32(second.Mod(second, m).Uint64()<<16 | first.Mod(first, m).Uint64()) // Mod's results are never below 0
}

// edges are numbers whose halves are at the ends of what they can be, and around the modulus.
func edges() []uint32 {
	var all []uint32
	halves := []uint32{0, 1, 2, 255, 256, 0x7fff, 0x8000, 65533, 65534, 65535}
	for _, second := range halves {
		for _, first := range halves {
			all = append(all, second<<16|first)
		}
	}
	return all
}

// text returns n random bytes.
func text(g *rand.Rand, n int) string {
	b := make([]byte, n)
	g.Read(b)
	return string(b)
}

// texts are strings that are short and long, of low, high and any bytes, some of them not UTF-8.
func texts() []string {
	all := []string{"", "\x00", "\x01", "\xff", "\x00\x00", "ab", "ba", "abc", "Wikipedia", "\x80", "\xc3", "é", "\u65e5\u672c", "a\xffb", "\xed\xa0\x80"}
	g := rand.New(rand.NewSource(2))
	for _, n := range []int{64, 255, 256, 257, 258, 259, 514, 4096, 65534, 65535, 65536, 70000} {
		all = append(all, text(g, n), strings.Repeat("\x00", n), strings.Repeat("\x01", n), strings.Repeat("\xff", n))
	}
	return all
}

// The chapter's examples.
func TestExamples(t *testing.T) {
	same(t, "Sum of the empty string", sum.Sum(""), 0x00000001)
	same(t, "Sum of a byte 0", sum.Sum("\x00"), 0x00010001)
	same(t, "Sum of abc", sum.Sum("abc"), 0x024d0127)
	same(t, "Sum of Wikipedia", sum.Sum("Wikipedia"), 0x11e60398)
	same(t, "Update(00000001, abc)", sum.Update(0x00000001, "abc"), 0x024d0127)
	same(t, "Update(ffffffff, empty)", sum.Update(0xffffffff, ""), 0)
	same(t, "Update(024d0127, d)", sum.Update(0x024d0127, "d"), 0x03d8018b)
	same(t, "Join of abc and d", sum.Join(sum.Sum("abc"), sum.Sum("d"), 1), 0x03d8018b)
	same(t, "Join(0, 0, -5)", sum.Join(0, 0, -5), 0x0000fffe)
	same(t, "Sum of 257 bytes ff", sum.Sum(strings.Repeat("\xff", 257)), 0x01010001)
}

// P2.1: Sum returns the number of both sums, which start with 1 and 0.
func TestSum(t *testing.T) {
	for b := range 256 {
		n := uint32(b) + 1
		same(t, "Sum of one byte", sum.Sum(string([]byte{byte(b)})), n<<16|n)
	}
	for _, s := range texts() {
		same(t, "Sum", sum.Sum(s), model(1, s))
		same(t, "Sum, asked again", sum.Sum(s), model(1, s))
	}
}

// P2.1: the modulus is 65535 for both sums: each of them falls back to 0 there.
func TestSumAtModulus(t *testing.T) {
	high := strings.Repeat("\xff", 256) // the first sum is 65281
	for _, x := range []struct {
		s     string
		first uint32
	}{
		{high, 65281},
		{high + "\xfd", 65534},
		{high + "\xfe", 0},
		{high + "\xff", 1},
	} {
		same(t, "the first sum", sum.Sum(x.s)&0xffff, x.first)
	}
	same(t, "the second sum below", sum.Sum(strings.Repeat("\x00", 65534)), 65534<<16|1)
	same(t, "the second sum at it", sum.Sum(strings.Repeat("\x00", 65535)), 1)
	same(t, "the second sum above", sum.Sum(strings.Repeat("\x00", 65536)), 1<<16|1)
}

// P2.2: Update goes on from the sums that a number represents, whichever it is.
func TestUpdate(t *testing.T) {
	for _, n := range edges() {
		first, second := halves(n)
		same(t, "Update by nothing", sum.Update(n, ""), uint32(second<<16|first))
		for _, s := range []string{"\x00", "\x01", "\xfe", "\xff", "abc", strings.Repeat("\xff", 300)} {
			same(t, "Update", sum.Update(n, s), model(n, s))
		}
	}
	g := rand.New(rand.NewSource(22))
	for range 2000 {
		n, s := g.Uint32(), text(g, g.Intn(400))
		same(t, "Update of random numbers", sum.Update(n, s), model(n, s))
	}
}

// P2.2: of a number's halves, only what they are modulo 65535 counts.
func TestUpdateOfEqualHalves(t *testing.T) {
	for _, s := range []string{"", "\x00", "abc"} {
		for _, n := range []uint32{0xffff, 0xffff0000, 0xffffffff} {
			same(t, "Update of ffff in place of 0", sum.Update(n, s), sum.Update(0, s))
		}
	}
}

// P2.3: Join returns the sums that are promised, for all numbers, and whatever n is.
func TestJoin(t *testing.T) {
	counts := []int{math.MinInt, math.MinInt + 1, -65536, -65535, -1, 0, 1, 2, 255, 65534, 65535, 65536, 131070, 1 << 30, math.MaxInt32, math.MaxInt - 1, math.MaxInt}
	for _, a := range edges() {
		for _, b := range edges() {
			for _, n := range counts {
				if got, want := sum.Join(a, b, n), joined(a, b, n); got != want {
					t.Fatalf("Join(%08x, %08x, %d): got %08x, want %08x", a, b, n, got, want)
				}
			}
		}
	}
	g := rand.New(rand.NewSource(23))
	for range 20000 {
		a, b, n := g.Uint32(), g.Uint32(), int(g.Uint64()>>g.Intn(64))
		if got, want := sum.Join(a, b, n), joined(a, b, n); got != want {
			t.Fatalf("Join(%08x, %08x, %d): got %08x, want %08x", a, b, n, got, want)
		}
	}
}

// P2.3: an n below 0 counts as 0.
func TestJoinBelowZero(t *testing.T) {
	for _, n := range []int{-1, -5, -65535, math.MinInt} {
		same(t, "Join", sum.Join(0x024d0127, 0x03d8018b, n), sum.Join(0x024d0127, 0x03d8018b, 0))
	}
}

// P2.4: the Sum of two strings in one, from that of the first one, and from those of both.
func TestConcatenation(t *testing.T) {
	for _, s := range texts() {
		want := sum.Sum(s)
		for _, i := range []int{0, 1, 2, 3, 63, 64, 255, 256, 257, len(s) / 2, len(s) - 1, len(s)} {
			if i < 0 || i > len(s) {
				continue
			}
			first, second := sum.Sum(s[:i]), sum.Sum(s[i:])
			same(t, "Update", sum.Update(first, s[i:]), want)
			same(t, "Join", sum.Join(first, second, len(s)-i), want)
		}
	}
}

// P2.4: strings whose first sum comes to 0 are joined like others.
func TestConcatenationAfterZero(t *testing.T) {
	first := strings.Repeat("\xff", 256) + "\xfe"
	same(t, "the first sum of the first string", sum.Sum(first)&0xffff, 0)
	for _, second := range []string{"", "\x00", "\xff", "abc", first, strings.Repeat("z", 1000)} {
		whole := sum.Sum(first + second)
		same(t, "Update", sum.Update(sum.Sum(first), second), whole)
		same(t, "Join", sum.Join(sum.Sum(first), sum.Sum(second), len(second)), whole)
		same(t, "Join the other way", sum.Join(sum.Sum(second), sum.Sum(first), len(first)), sum.Sum(second+first))
	}
}

// P2.4: Join is associative.
func TestJoinIsAssociative(t *testing.T) {
	g := rand.New(rand.NewSource(24))
	for range 20000 {
		a, b, c := g.Uint32(), g.Uint32(), g.Uint32()
		n, m := g.Intn(200000), g.Intn(200000)
		left := sum.Join(sum.Join(a, b, n), c, m)
		right := sum.Join(a, sum.Join(b, c, m), n+m)
		if left != right {
			t.Fatalf("%08x, %08x with %d, %08x with %d: %08x and %08x", a, b, n, c, m, left, right)
		}
	}
}

// P2.5: strings that differ in exactly one byte have different Sums: a byte 0 and a byte ff too.
func TestOneByteDiffers(t *testing.T) {
	g := rand.New(rand.NewSource(25))
	for _, n := range []int{1, 2, 64, 257, 4096} {
		b := []byte(text(g, n))
		for _, i := range []int{0, n / 2, n - 1} {
			seen := map[uint32]int{}
			for v := range 256 {
				b[i] = byte(v)
				k := sum.Sum(string(b))
				if other, ok := seen[k]; ok {
					t.Errorf("%d bytes, of which byte %d is %d or %d: both %08x", n, i, other, v, k)
				}
				seen[k] = v
			}
		}
	}
}

// P2.5: so have strings in which two different bytes, at most 256 positions apart, were exchanged.
func TestBytesExchanged(t *testing.T) {
	g := rand.New(rand.NewSource(26))
	for apart := 1; apart <= 256; apart++ {
		for _, pair := range [][2]byte{{0, 255}, {255, 0}, {0, 1}, {1, 0}, {127, 128}, {byte(g.Intn(128)), byte(128 + g.Intn(128))}} {
			i := g.Intn(300)
			b := []byte(text(g, i+apart+1+g.Intn(300)))
			b[i], b[i+apart] = pair[0], pair[1]
			before := sum.Sum(string(b))
			b[i], b[i+apart] = b[i+apart], b[i]
			if after := sum.Sum(string(b)); after == before {
				t.Errorf("bytes %d and %d, %d apart, exchanged: both %08x", pair[0], pair[1], apart, before)
			}
		}
	}
}

// What a call returns does not depend on others that run at the same time.
func TestAtTheSameTime(t *testing.T) {
	s := strings.Repeat("abc", 1000)
	want := model(1, s)
	var all sync.WaitGroup
	for range 8 {
		all.Go(func() {
			for range 50 {
				if n := sum.Update(sum.Sum(s[:1000]), s[1000:]); n != want {
					t.Errorf("got %08x, want %08x", n, want)
				}
			}
		})
	}
	all.Wait()
}
