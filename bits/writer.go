package bits

import "bytes"

// Writer writes bits.
type Writer struct {
	// all has zeros where no bit of the last byte was written yet.
	all []byte
	// many is how many bits were written.
	many int
}

// Write is a writer of no bits yet.
func Write() *Writer { return &Writer{} }

// Bits writes the lowest n bits of v, as a number.
func (w *Writer) Bits(n, v int) {
	if w == nil {
		return
	}
	n = held(n)
	within := w.many % 8
	first := w.many / 8
	w.lengthen(n)
	v = lowest(n, v) << within
	for i := range w.all[first:] {
		w.all[first+i] |= byte(v >> (8 * i))
	}
}

// Code writes the lowest n bits of v, as a code.
func (w *Writer) Code(n, v int) {
	n = held(n)
	w.Bits(n, turned(n, v))
}

// turned are the n lowest bits of v, the highest of them as the lowest.
func turned(n, v int) int {
	out := 0
	for range n {
		out = out<<1 | v&1
		v >>= 1
	}
	return out
}

// Align writes zeros till a byte begins.
func (w *Writer) Align() {
	if w == nil {
		return
	}
	w.lengthen(-w.many & 7)
}

// lengthen has n bits more, all of them zeros.
func (w *Writer) lengthen(n int) {
	w.many += n
	for 8*len(w.all) < w.many {
		w.all = append(w.all, 0)
	}
}

// Bytes are all bits, zeros filling the last byte.
func (w *Writer) Bytes() []byte {
	if w == nil {
		return nil
	}
	return bytes.Clone(w.all)
}

// Len is how many bits were written.
func (w *Writer) Len() int {
	if w == nil {
		return 0
	}
	return w.many
}
