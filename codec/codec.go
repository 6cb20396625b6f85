// Package codec is layer 1: numbers and strings as bytes (shared/doc/01-codec.md).
package codec

import (
	"iter"
	"math/bits"
)

// The bytes of a var number.
const (
	more    = 0x80 // added to every digit but the last one
	fifth   = 4    // the index of the last byte that there may be, the fifth one
	topmost = 0x0f // the greatest fifth byte of a number below 2^32
)

// number is what is encoded in as many bytes as its type has.
type number interface{ uint8 | uint16 | uint32 }

// width returns the number of bytes of N.
func width[N number]() int {
	return bits.Len32(uint32(^N(0))) / 8
}

// digits produces the bytes of the var number n.
func digits(n uint32) iter.Seq[byte] {
	return func(yield func(byte) bool) {
		left := n
		for left >= more {
			if !yield(byte(left) | more) {
				return
			}
			left >>= 7
		}
		yield(byte(left))
	}
}

// coded produces the bytes of the var number at the beginning of s, with their indices; if s ends too early, as many as there are.
func coded(s string) iter.Seq2[int, byte] {
	return func(yield func(int, byte) bool) {
		for i := range len(s) {
			if !yield(i, s[i]) || s[i] < more {
				return
			}
		}
	}
}
