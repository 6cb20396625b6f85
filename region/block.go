package region

import (
	"iter"
	"strings"

	"revert/api"
	"revert/codec"
)

// Piece is how many bytes of a group a log block has at most.
const Piece = 58

// gap is how many bytes 0 the header has between its generations.
const gap = api.Block - 4 - 4

// Needs returns the number of log blocks that a group of n bytes takes.
func Needs(n int) int {
	return (max(n, 1)-1)/Piece + 1 // a group without bytes takes as many as one of 1 byte
}

// all reports whether everything holds that a block must be.
func all(rules ...func() bool) bool {
	for _, holds := range rules {
		if !holds() {
			return false
		}
	}
	return true
}

// zeros returns n bytes 0.
func zeros(n int) string { return strings.Repeat("\x00", n) }

// blank reports whether s consists of bytes 0.
func blank(s string) bool { return s == zeros(len(s)) }

// header returns the block with the generation gen.
func header(gen uint32) string {
	var w codec.Writer
	w.U32(gen)
	w.Raw(zeros(gap))
	w.U32(gen)
	return w.Bytes()
}

// head is what the header of a region should be.
type head struct {
	gen    uint32
	middle string
	again  uint32
}

func (h head) given() bool { return h.gen > 0 }
func (h head) empty() bool { return blank(h.middle) }
func (h head) twice() bool { return h.again == h.gen }

// generation returns the generation of a header; 0 if it is not complete.
func generation(s string) uint32 {
	r := codec.Read(s)
	h := head{gen: r.U32(), middle: r.Fixed(gap), again: r.U32()}
	if !all(h.given, h.empty, h.twice) {
		return 0
	}
	return h.gen
}

// The bytes of a log block that tell whether a group ends with it.
const (
	goesOn = iota
	endsHere
)

// blocks produces the log blocks of a group, with their numbers; the first one has the number i.
func blocks(group string, i int) iter.Seq2[int, string] {
	return func(yield func(int, string) bool) {
		for k := range Needs(len(group)) {
			from := k * Piece
			to := min(from+Piece, len(group))
			if !yield(i+k, logBlock(i+k, group[from:to], to == len(group))) {
				return
			}
		}
	}
}

// logBlock returns the log block with the number i that has a piece of a group.
func logBlock(i int, piece string, last bool) string {
	var w codec.Writer
	w.U16(uint16(i))
	if last {
		w.U8(endsHere)
	} else {
		w.U8(goesOn)
	}
	w.U8(uint8(len(piece)))
	w.Raw(piece)
	w.Raw(zeros(Piece - len(piece)))
	w.U16(uint16(i))
	return w.Bytes()
}

// entry is what a log block should be.
type entry struct {
	place  uint16 // where it is, which isn't a part of it
	number uint16
	end    uint8
	size   uint8
	bytes  string
	again  uint16
}

// parse takes the block apart that should have the number i.
func parse(s string, i int) entry {
	r := codec.Read(s)
	return entry{place: uint16(i), number: r.U16(), end: r.U8(), size: r.U8(), bytes: r.Fixed(Piece), again: r.U16()}
}

func (b entry) begun() bool    { return b.number == b.place }
func (b entry) finished() bool { return b.again == b.place }
func (b entry) plain() bool    { return b.end == goesOn || b.end == endsHere }
func (b entry) fits() bool     { return b.size <= Piece }
func (b entry) filled() bool   { return b.ends() || b.size == Piece }
func (b entry) padded() bool   { return blank(b.bytes[len(b.piece()):]) }

// ends reports whether a group ends with the block.
func (b entry) ends() bool { return b.end == endsHere }

// piece returns the bytes of a group that the block has.
func (b entry) piece() string { return b.bytes[:min(int(b.size), len(b.bytes))] }

// complete reports whether the block is what it should be.
func (b entry) complete() bool {
	return all(b.begun, b.finished, b.plain, b.fits, b.filled, b.padded)
}
