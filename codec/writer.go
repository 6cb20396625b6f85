package codec

// Writer is what was written.
type Writer struct {
	// Copies of a Writer share what all points to, so what is there is never
	// written over: only a Writer that has all of it may append to it.
	all *[]byte
	n   int
}

// put appends n, with the highest byte first.
func put[N number](w *Writer, n N) {
	b := make([]byte, width[N]())
	for i := range b {
		b[len(b)-1-i] = byte(n >> (8 * i))
	}
	w.Raw(string(b))
}

// U8 appends n as one byte.
func (w *Writer) U8(n uint8) { put(w, n) }

// U16 appends n as two bytes.
func (w *Writer) U16(n uint16) { put(w, n) }

// U32 appends n as four bytes.
func (w *Writer) U32(n uint32) { put(w, n) }

// Var appends n as a var number.
func (w *Writer) Var(n uint32) {
	for b := range digits(n) {
		put(w, b)
	}
}

// Raw appends the bytes of s, without their number.
func (w *Writer) Raw(s string) {
	if w == nil {
		return
	}
	if w.all == nil || w.n < len(*w.all) {
		own := []byte(w.Bytes())
		w.all = &own
	}
	*w.all = append(*w.all, s...)
	w.n = len(*w.all)
}

// Text appends the number of bytes of s as a var number, and these bytes.
func (w *Writer) Text(s string) {
	w.Var(uint32(len(s)))
	w.Raw(s)
}

// Bytes returns everything that was written.
func (w *Writer) Bytes() string {
	if w == nil || w.all == nil {
		return ""
	}
	return string((*w.all)[:w.n])
}
