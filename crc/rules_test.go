package crc

import (
	"bytes"
	"slices"
	"testing"
)

// R1: no call panics, a nil Sum's neither: it takes nothing, and is of nothing (P2.1).
func TestNilSum(t *testing.T) {
	var s *Sum
	for _, b := range [][]byte{nil, {}, {1}, mixed(1000, 1)} {
		s.Add(b)
		if s.Sum() != 0 || s.Len() != 0 {
			t.Errorf("behind %d bytes: %08x of %d", len(b), s.Sum(), s.Len())
		}
	}
}

// R1: all arguments are taken, lists of nothing, and many, too.
func TestAllArguments(t *testing.T) {
	long := mixed(1<<20, 5)
	if Of(long) != told(long) {
		t.Error("a long text")
	}
	many := make([][]byte, 1<<16)
	if got := Of(many...); got != 0 {
		t.Errorf("many nils: %08x", got)
	}
	many[1<<15] = []byte("123456789")
	if got := Of(many...); got != 0xcbf43926 {
		t.Errorf("one among many nils: %08x", got)
	}
}

// R2: no call here tells an error; what takes nothing has changed nothing.
func TestNothingAddedChangesNothing(t *testing.T) {
	s := added([]byte("12345"))
	sum := s.Sum()
	var none *Sum
	none.Add([]byte("6"))
	s.Add(nil)
	s.Add([]byte{})
	if s.Sum() != sum || s.Len() != 5 {
		t.Errorf("%08x of %d, wanted %08x of 5", s.Sum(), s.Len(), sum)
	}
	s.Add([]byte("6789"))
	if s.Sum() != 0xcbf43926 || s.Len() != 9 {
		t.Errorf("%08x of %d", s.Sum(), s.Len())
	}
}

// R3: nil and empty lists are one, handed in.
func TestNilIsEmpty(t *testing.T) {
	for i, l := range [][][]byte{nil, {}, {nil}, {{}}, {nil, {}, nil}} {
		if got := Of(l...); got != 0 {
			t.Errorf("%d: %08x", i, got)
		}
	}
	one, other := added([]byte{7}, nil, []byte{8}), added([]byte{7}, []byte{}, []byte{8})
	if one.Sum() != other.Sum() || one.Len() != other.Len() {
		t.Errorf("%08x of %d, %08x of %d", one.Sum(), one.Len(), other.Sum(), other.Len())
	}
}

// spare is b with room behind it, filled with x, so that a write into it is seen.
func spare(b []byte, room int, x byte) []byte {
	whole := append(slices.Clone(b), bytes.Repeat([]byte{x}, room)...)
	return whole[:len(b)]
}

// R4: what is handed in isn't changed, spare room included, nor are the lists of it.
func TestArgumentsStay(t *testing.T) {
	b := spare([]byte("123456789"), 40, 0xaa)
	before := slices.Clone(b[:cap(b)])
	l := make([][]byte, 2, 6)
	l[0], l[1] = b, b[:3]
	Of(l...)
	Of(l[:0]...)
	s := New()
	s.Add(b)
	s.Add(b[:4])
	s.Sum()
	s.Len()
	if !bytes.Equal(b[:cap(b)], before) {
		t.Errorf("bytes: %x", b[:cap(b)])
	}
	if !bytes.Equal(l[0], b) || !bytes.Equal(l[1], b[:3]) || l[:3][2] != nil {
		t.Error("lists")
	}
}

// R4: what is handed in isn't kept: when it changes later, the sum doesn't.
func TestArgumentsAreNotKept(t *testing.T) {
	s := New()
	b := []byte("12345")
	s.Add(b)
	copy(b, "6789x")
	s.Add(b[:4])
	copy(b, "xxxxx")
	if s.Sum() != 0xcbf43926 || s.Len() != 9 {
		t.Errorf("%08x of %d", s.Sum(), s.Len())
	}
}

// R4 and R5: sums on their way side by side, and sums of pieces between, have nothing to do with one another.
func TestSumsStandAlone(t *testing.T) {
	one, other := New(), New()
	b, c := mixed(50, 21), mixed(50, 22)
	for i := range b {
		one.Add(b[i : i+1])
		Of(c, b)
		other.Add(c[i : i+1])
		New().Add(c)
		if one.Sum() != told(b[:i+1]) || other.Sum() != told(c[:i+1]) || one.Len() != i+1 || other.Len() != i+1 {
			t.Errorf("behind %d bytes each: %08x of %d, %08x of %d", i+1, one.Sum(), one.Len(), other.Sum(), other.Len())
		}
	}
}

// R5: asked again, or of bytes with other spare room, the answer is the same.
func TestAnswersHangOnArguments(t *testing.T) {
	tight := slices.Clip([]byte("123456789"))
	roomy := spare(tight, 64, 0xbb)
	s := added(tight)
	for range 3 {
		if Of(tight) != 0xcbf43926 || Of(roomy) != 0xcbf43926 || added(roomy).Sum() != 0xcbf43926 {
			t.Error("bytes")
		}
		if s.Sum() != 0xcbf43926 || s.Len() != 9 {
			t.Errorf("%08x of %d", s.Sum(), s.Len())
		}
	}
}
