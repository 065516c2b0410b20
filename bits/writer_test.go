package bits

import (
	"bytes"
	"math/rand"
	"testing"
)

// sameWriter tells whether a writer has just the model's bits.
func sameWriter(t *testing.T, what string, w *Writer, m *toldWriter) {
	t.Helper()
	if got := w.Bytes(); w.Len() != len(m.l) || !bytes.Equal(got, m.bytes()) {
		t.Fatalf("%s: %x, %d bits, wanted %x, %d bits", what, got, w.Len(), m.bytes(), len(m.l))
	}
}

// P4.2: the chapter's example, and others that are known: numbers the lowest bit first, codes the highest.
func TestKnownBytes(t *testing.T) {
	for i, c := range []struct {
		write func(w *Writer)
		want  string
		many  int
	}{
		{func(w *Writer) { w.Bits(3, 5); w.Code(2, 1) }, "\x15", 5},
		{func(w *Writer) {}, "", 0},
		{func(w *Writer) { w.Bits(1, 1) }, "\x01", 1},
		{func(w *Writer) { w.Code(1, 1) }, "\x01", 1},
		{func(w *Writer) { w.Bits(8, 1) }, "\x01", 8},
		{func(w *Writer) { w.Code(8, 1) }, "\x80", 8},
		{func(w *Writer) { w.Code(3, 6) }, "\x03", 3},
		{func(w *Writer) { w.Bits(16, 300) }, "\x2c\x01", 16},
		{func(w *Writer) { w.Code(9, 1) }, "\x00\x01", 9},
		{func(w *Writer) { w.Bits(24, 0x030201) }, "\x01\x02\x03", 24},
		{func(w *Writer) { w.Code(24, 0x800001) }, "\x01\x00\x80", 24},
		{func(w *Writer) { w.Bits(7, 0); w.Bits(24, 0xffffff) }, "\x80\xff\xff\x7f", 31},
		{func(w *Writer) { w.Bits(4, 0x1a); w.Code(3, 6); w.Align(); w.Bits(2, 1) }, "\x3a\x01", 10},
		{func(w *Writer) { w.Align(); w.Bits(1, 1); w.Align(); w.Align(); w.Bits(1, 1) }, "\x01\x01", 9},
	} {
		w := Write()
		if w == nil {
			t.Fatal("nil")
		}
		c.write(w)
		if got := w.Bytes(); string(got) != c.want || w.Len() != c.many {
			t.Errorf("%d: %x, %d bits, wanted %x, %d bits", i, got, w.Len(), c.want, c.many)
		}
	}
}

// P4.2: the lowest n bits of v, whatever v is and n (held within 0 to 24), stand behind so many other bits as they should.
func TestBitsBehindBits(t *testing.T) {
	values := append([]int{5, 6, 0xaaaaaa, 0x555555, 0x123456, -0x123456, 0x7654321}, extremes...)
	for ahead := range 10 {
		for _, n := range append([]int{4, 5, 6, 10, 12, 18}, extremes...) {
			for _, v := range values {
				w, m := Write(), &toldWriter{}
				w.Bits(ahead, 0x2d3)
				m.bits(ahead, 0x2d3)
				w.Bits(n, v)
				m.bits(n, v)
				sameWriter(t, "Bits", w, m)
				w.Code(n, v)
				m.code(n, v)
				sameWriter(t, "Code", w, m)
				w.Bits(1, 1)
				m.bits(1, 1)
				sameWriter(t, "one more", w, m)
			}
		}
	}
}

// P4.2: n below 1 writes nothing, and n above 24 writes 24 bits.
func TestWriterHoldsN(t *testing.T) {
	for _, n := range extremes {
		one, other := Write(), Write()
		one.Bits(n, -1)
		other.Code(n, -1)
		if one.Len() != within(n) || other.Len() != within(n) {
			t.Errorf("n %d: %d and %d bits, wanted %d", n, one.Len(), other.Len(), within(n))
		}
	}
	w := Write()
	w.Code(25, 1)
	if got := w.Bytes(); string(got) != "\x00\x00\x80" {
		t.Errorf("a code of 25 bits: %x", got)
	}
}

// P4.2: Align writes zeros, which count, till a byte begins: none where one begins.
func TestWriterAligns(t *testing.T) {
	for ahead := range 25 {
		w, m := Write(), &toldWriter{}
		w.Bits(ahead, -1)
		m.bits(ahead, -1)
		for range 2 {
			w.Align()
			m.align()
			sameWriter(t, "Align", w, m)
			if w.Len()%8 != 0 || w.Len()-ahead > 7 || 8*len(w.Bytes()) != w.Len() {
				t.Errorf("behind %d bits: %d", ahead, w.Len())
			}
		}
		w.Bits(3, 7)
		m.bits(3, 7)
		sameWriter(t, "behind Align", w, m)
	}
}

// P4.2: the zeros that fill the last byte aren't written: what comes next stands in their place.
func TestBytesWritesNothing(t *testing.T) {
	w, m := Write(), &toldWriter{}
	for i := range 60 {
		for range 2 {
			sameWriter(t, "Bytes", w, m)
		}
		w.Bits(1, i%3)
		m.bits(1, i%3)
		w.Code(i%5, i)
		m.code(i%5, i)
	}
}

// P4.2: through many calls, of any kind and order, a writer has the model's bits.
func TestWriterByModel(t *testing.T) {
	for seed := range int64(60) {
		x := rand.New(rand.NewSource(seed))
		w, m := Write(), &toldWriter{}
		for range 120 {
			n, v := x.Intn(29)-2, int(x.Uint64())
			switch x.Intn(5) {
			case 0:
				w.Align()
				m.align()
			case 1, 2:
				w.Code(n, v)
				m.code(n, v)
			default:
				w.Bits(n, v)
				m.bits(n, v)
			}
			sameWriter(t, "many calls", w, m)
		}
	}
}

// P4.1 and P4.2 belong together: what is written is read, a number as it was, a code bit by bit, the highest first.
func TestWrittenIsRead(t *testing.T) {
	x := rand.New(rand.NewSource(77))
	w := Write()
	var ns, vs []int
	for i := range 3000 {
		n := x.Intn(25)
		v := x.Intn(1 << n)
		ns, vs = append(ns, n), append(vs, v)
		if i%2 == 0 {
			w.Bits(n, v)
		} else {
			w.Code(n, v)
		}
	}
	r := Read(w.Bytes())
	for i, n := range ns {
		got, is := 0, true
		if i%2 == 0 {
			got, is = r.Bits(n)
		} else {
			for range n {
				one, _ := r.Bits(1)
				got = 2*got + one
			}
		}
		if got != vs[i] || !is {
			t.Fatalf("%d: %d bits: %d %v, wanted %d", i, n, got, is, vs[i])
		}
	}
	if r.Mark() != w.Len() || r.Left() > 7 {
		t.Errorf("%d read, %d written", r.Mark(), w.Len())
	}
	if v, _ := r.Bits(r.Left()); v != 0 {
		t.Errorf("the last byte is filled with %b", v)
	}
}
