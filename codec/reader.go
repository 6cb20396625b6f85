package codec

import "revert/api"

// Reader is what is read.
type Reader struct {
	rest string // empty once there is an error: whatever is read after it is zero
	err  api.Errno
}

// Read returns a reader at the beginning of s.
func Read(s string) *Reader { return &Reader{rest: s} }

// fail records e, unless an earlier error is known.
func (r *Reader) fail(e api.Errno) {
	if r.err == api.OK {
		*r = Reader{err: e}
	}
}

// next reads n bytes. n has 64 bits, because a length need not fit into an int.
func (r *Reader) next(n uint64) string {
	if r == nil {
		return ""
	}
	if n > uint64(len(r.rest)) {
		r.fail(api.ErrTorn)
		return ""
	}
	s := r.rest[:n]
	r.rest = r.rest[n:]
	return s
}

// take reads a number, with the highest byte first.
func take[N number](r *Reader) N {
	var n uint32
	for _, b := range []byte(r.next(uint64(width[N]()))) {
		n = n<<8 | uint32(b)
	}
	return N(n)
}

// U8 reads a number of one byte.
func (r *Reader) U8() uint8 { return take[uint8](r) }

// U16 reads a number of two bytes.
func (r *Reader) U16() uint16 { return take[uint16](r) }

// U32 reads a number of four bytes.
func (r *Reader) U32() uint32 { return take[uint32](r) }

// Var reads a var number.
func (r *Reader) Var() uint32 {
	if r == nil {
		return 0
	}
	var n uint32
	for i, b := range coded(r.rest) {
		if i == fifth && b > topmost || i > 0 && b == 0 {
			r.fail(api.ErrForm)
			return 0
		}
		n |= uint32(b&^more) << (7 * i)
		if b < more {
			r.rest = r.rest[i+1:]
			return n
		}
	}
	r.fail(api.ErrTorn)
	return 0
}

// Fixed reads n bytes; below 0 counts as 0.
func (r *Reader) Fixed(n int) string { return r.next(uint64(max(n, 0))) }

// Text reads a string.
func (r *Reader) Text() string { return r.next(uint64(r.Var())) }

// Err returns the first error that occurred.
func (r *Reader) Err() api.Errno {
	if r == nil {
		return api.ErrNil
	}
	return r.err
}

// Rest returns what has not been read.
func (r *Reader) Rest() string {
	if r == nil {
		return ""
	}
	return r.rest
}

// End returns the error, if there is one, and whether something has not been read.
func (r *Reader) End() api.Errno {
	if e := r.Err(); e != api.OK {
		return e
	}
	if r.rest != "" {
		return api.ErrForm
	}
	return api.OK
}
