package bits

import (
	"bytes"
	"slices"
	"testing"
)

// R1 and P4.1: of a nil Reader every call tells false and 0, of no bits, too, and what is added to it is nowhere.
func TestNilReader(t *testing.T) {
	var r *Reader
	for _, n := range extremes {
		r.Add([]byte{1, 2, 3, 4})
		r.Back(n)
		if v, is := r.Bits(n); v != 0 || is {
			t.Errorf("Bits(%d): %d %v", n, v, is)
		}
		if v, is := r.Peek(n); v != 0 || is {
			t.Errorf("Peek(%d): %d %v", n, v, is)
		}
		if r.Has(n) || r.Align() != 0 || r.Left() != 0 || r.Mark() != 0 {
			t.Errorf("n %d: %v %d %d %d", n, r.Has(n), r.Align(), r.Left(), r.Mark())
		}
	}
}

// R1 and P4.2: of a nil Writer every call tells nothing and 0, and what is written to it is nowhere.
func TestNilWriter(t *testing.T) {
	var w *Writer
	for _, n := range extremes {
		for _, v := range extremes {
			w.Bits(n, v)
			w.Code(n, v)
			w.Align()
			if len(w.Bytes()) != 0 || w.Len() != 0 {
				t.Errorf("Bits and Code(%d, %d): %x %d", n, v, w.Bytes(), w.Len())
			}
		}
	}
}

// R1: no call panics, whatever it is given, wherever the reader or the writer stands.
func TestAllArguments(t *testing.T) {
	r, w := Read(mixed(100, 1)), Write()
	for _, n := range extremes {
		for _, mark := range extremes {
			r.Peek(n)
			r.Bits(n)
			r.Has(mark)
			r.Back(mark)
			w.Bits(n, mark)
			w.Code(n, mark)
			if r.Mark() < 0 || r.Left() < 0 || r.Mark()+r.Left() != 800 || len(w.Bytes()) != (w.Len()+7)/8 {
				t.Fatalf("n %d, mark %d: %d taken, %d left; %d written", n, mark, r.Mark(), r.Left(), w.Len())
			}
			r.Align()
			w.Align()
		}
	}
	many := make([][]byte, 1<<16)
	many[1<<15] = []byte{0x2c, 0x01}
	if v, is := Read(many...).Bits(16); v != 300 || !is {
		t.Errorf("one among many nils: %d %v", v, is)
	}
}

// R2: what tells false tells 0 beside it, and has changed nothing that a later call tells: the bits that are there are taken still, and those that come, behind them.
func TestFalseChangesNothing(t *testing.T) {
	b := mixed(5, 2)
	for taken := range 17 {
		r, m := Read(b[:2]), &toldReader{left: listed(b[:2])}
		r.Bits(taken)
		m.bits(taken)
		for n := 16 - taken + 1; n < 30; n++ {
			if v, is := r.Bits(n); v != 0 || is {
				t.Errorf("%d taken: Bits(%d): %d %v", taken, n, v, is)
			}
			if v, is := r.Peek(n); v != 0 || is {
				t.Errorf("%d taken: Peek(%d): %d %v", taken, n, v, is)
			}
			r.Back(taken + n)
			r.Back(-n)
			sameReader(t, "false", r, m)
		}
		r.Add(b[2:])
		m.add(b[2:])
		sameReader(t, "added behind false", r, m)
	}
}

// R3: nil and empty lists are one, handed in and answered.
func TestNilIsEmpty(t *testing.T) {
	b := mixed(3, 3)
	one, other := Read(nil, b, nil), Read([]byte{}, b, []byte{})
	for range 5 {
		one.Add(nil)
		other.Add([]byte{})
		v, is := one.Bits(7)
		if u, so := other.Bits(7); v != u || is != so || one.Left() != other.Left() || one.Mark() != other.Mark() {
			t.Errorf("%d %v, %d %v", v, is, u, so)
		}
	}
	w := Write()
	w.Bits(0, 1)
	w.Code(0, 1)
	w.Align()
	if len(w.Bytes()) != 0 || len(Write().Bytes()) != 0 {
		t.Errorf("%x", w.Bytes())
	}
}

// spare is b with room behind it, filled with x, so that a write into it is seen.
func spare(b []byte, room int, x byte) []byte {
	whole := append(slices.Clone(b), bytes.Repeat([]byte{x}, room)...)
	return whole[:len(b)]
}

// turn turns over all of b, its spare room, too.
func turn(b []byte) {
	b = b[:cap(b)]
	for i := range b {
		b[i] = ^b[i]
	}
}

// R4: what is handed in isn't changed, spare room included, nor are the lists of it.
func TestArgumentsStay(t *testing.T) {
	b := spare(mixed(9, 4), 40, 0xaa)
	before := slices.Clone(b[:cap(b)])
	l := make([][]byte, 3, 6)
	l[0], l[1], l[2] = b, b[:3], b[:0]
	for _, r := range []*Reader{Read(l...), Read(b), Read(l[:0]...), Read(b[:0])} {
		r.Add(b)
		r.Add(b[:4])
		for range 30 {
			r.Bits(5)
		}
		r.Align()
		r.Back(3)
		r.Add(b[:1])
	}
	if !bytes.Equal(b[:cap(b)], before) {
		t.Errorf("bytes: %x", b[:cap(b)])
	}
	if !bytes.Equal(l[0], b) || !bytes.Equal(l[1], b[:3]) || len(l[2]) != 0 || l[:4][3] != nil {
		t.Error("lists")
	}
}

// R4: what is handed in isn't kept: bytes that are turned over behind Read, or behind Add, are read as they were; so when they come again.
func TestArgumentsAreNotKept(t *testing.T) {
	was := mixed(6, 5)
	for read := range 5 {
		b := spare(was, 20, 0x55)
		pieces := [][]byte{b[:2], b[2 : read+2], b[read+2:]}[:read%3+1]
		r, m := Read(pieces...), &toldReader{}
		for _, p := range pieces {
			m.add(p)
		}
		turn(b)
		pieces[0] = []byte("other")
		sameReader(t, "turned behind Read", r, m)
		r.Bits(13)
		m.bits(13)
		r.Add(b)
		m.add(b)
		turn(b)
		sameReader(t, "turned behind Add", r, m)
		r.Add(b[:1])
		m.add(b[:1])
		turn(b)
		for _, mark := range []int{9, 0} {
			r.Back(mark)
			m.back(mark)
			sameReader(t, "turned, and back", r, m)
		}
	}
}

// R4: what Bytes answers is new: turned over, spare room included, it changes neither the writer nor an earlier or a later answer.
func TestAnswersAreNew(t *testing.T) {
	w, m := Write(), &toldWriter{}
	for i := range 100 {
		kept := w.Bytes()
		was := slices.Clone(kept)
		first := w.Bytes()
		turn(first)
		sameWriter(t, "turned behind Bytes", w, m)
		w.Bits(i%11, i*i)
		m.bits(i%11, i*i)
		w.Code(3, i)
		m.code(3, i)
		if i%7 == 0 {
			w.Align()
			m.align()
		}
		turn(first)
		sameWriter(t, "turned again", w, m)
		if !bytes.Equal(kept, was) {
			t.Fatalf("an answer turned to %x, it was %x", kept, was)
		}
	}
}

// R5: what is answered hangs on the arguments, and on what the object has been through, alone: not on spare room, nor on other objects, nor on being asked again.
func TestObjectsStandAlone(t *testing.T) {
	tight := slices.Clip(mixed(40, 6))
	one, other := Read(tight), Read(spare(tight, 64, 0xbb))
	m := &toldReader{left: listed(tight)}
	first, second := Write(), Write()
	told, also := &toldWriter{}, &toldWriter{}
	for i := range 30 {
		want, so := m.bits(i % 13)
		if v, is := one.Bits(i % 13); v != want || is != so {
			t.Errorf("%d: %d %v, wanted %d %v", i, v, is, want, so)
		}
		Read(tight).Bits(9)
		Write().Bits(9, i)
		if v, is := other.Bits(i % 13); v != want || is != so {
			t.Errorf("%d, with spare room: %d %v, wanted %d %v", i, v, is, want, so)
		}
		for range 2 {
			sameReader(t, "one", one, m)
			sameReader(t, "other", other, m)
		}
		first.Bits(7, i)
		told.bits(7, i)
		second.Code(5, i)
		also.code(5, i)
		sameWriter(t, "first", first, told)
		sameWriter(t, "second", second, also)
	}
}
