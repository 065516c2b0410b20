package bits

import (
	"math"
	"math/rand"
	"testing"
)

// P4.1: bits that are known, byte by byte the lowest first.
func TestKnownBits(t *testing.T) {
	for _, c := range []struct {
		b    []byte
		n    []int
		want []int
	}{
		{[]byte{0x15}, []int{3, 2, 3}, []int{5, 2, 0}},
		{[]byte{0x01}, []int{1, 7}, []int{1, 0}},
		{[]byte{0x80}, []int{7, 1}, []int{0, 1}},
		{[]byte{0xb5, 0x01, 0xff}, []int{1, 3, 7, 13}, []int{1, 2, 27, 8160}},
		{[]byte{0x01, 0x02, 0x03}, []int{24}, []int{0x030201}},
		{[]byte{0x01, 0x02, 0x03}, []int{8, 16}, []int{1, 0x0302}},
		{[]byte{0xff, 0x00, 0x00, 0x80}, []int{8, 24}, []int{255, 0x800000}},
		{[]byte{0x80, 0xff, 0xff, 0x7f}, []int{7, 24, 1}, []int{0, 0xffffff, 0}},
		{[]byte{0x2c, 0x01}, []int{0, 16, 0}, []int{0, 300, 0}},
	} {
		r := Read(c.b)
		for i, n := range c.n {
			if v, is := r.Bits(n); v != c.want[i] || !is {
				t.Errorf("%x: the %d bits at %d: %d %v, wanted %d", c.b, n, i, v, is, c.want[i])
			}
		}
		if r.Left() != 0 || r.Has(1) {
			t.Errorf("%x: %d bits are left", c.b, r.Left())
		}
	}
}

// P4.1: so many bits, from each bit of a text on, are as the model has them; Peek takes none of them, Bits takes just them.
func TestBitsFromEachBitOn(t *testing.T) {
	for _, b := range [][]byte{nil, {0}, {0xff}, {0x5a, 0xc3}, mixed(4, 1), mixed(5, 2), {0xff, 0xff, 0xff, 0xff, 0xff}} {
		l := listed(b)
		for at := range len(l) + 1 {
			for n := -1; n < 27; n++ {
				r := Read(b)
				for range at {
					r.Bits(1)
				}
				want, so := 0, within(n) <= len(l)-at
				if so {
					want = number(l[at : at+within(n)])
				}
				if v, is := r.Peek(n); v != want || is != so || r.Mark() != at || r.Left() != len(l)-at {
					t.Errorf("%x: Peek(%d) at %d: %d %v, wanted %d %v; %d taken", b, n, at, v, is, want, so, r.Mark())
				}
				takes := 0
				if so {
					takes = within(n)
				}
				if v, is := r.Bits(n); v != want || is != so || r.Mark() != at+takes || r.Left() != len(l)-at-takes {
					t.Errorf("%x: Bits(%d) at %d: %d %v, wanted %d %v; %d taken", b, n, at, v, is, want, so, r.Mark())
				}
			}
		}
	}
}

// P4.1: of no bits at all there are none, and 0 of them are there.
func TestNoBitsAtAll(t *testing.T) {
	for i, r := range []*Reader{Read(), Read(nil), Read([]byte{}), Read(nil, []byte{}, nil)} {
		if r == nil {
			t.Fatal("nil")
		}
		r.Add(nil)
		r.Back(0)
		if r.Left() != 0 || r.Mark() != 0 || r.Align() != 0 {
			t.Errorf("%d: %d left, %d taken", i, r.Left(), r.Mark())
		}
		for _, n := range extremes {
			is := n < 1
			if v, so := r.Bits(n); v != 0 || so != is {
				t.Errorf("%d: Bits(%d): %d %v", i, n, v, so)
			}
			if v, so := r.Peek(n); v != 0 || so != is {
				t.Errorf("%d: Peek(%d): %d %v", i, n, v, so)
			}
			if r.Has(n) != is {
				t.Errorf("%d: Has(%d) is %v", i, n, !is)
			}
		}
	}
}

// P4.1: Has holds n within nothing: just as many as there are, are there; one more isn't.
func TestHas(t *testing.T) {
	for _, many := range []int{0, 1, 2, 3, 4, 5, 100} {
		r := Read(mixed(many, 3))
		for left := 8 * many; left >= 0; left-- {
			for _, n := range append([]int{left - 1, left, left + 1}, extremes...) {
				if r.Has(n) != (n < 1 || n <= left) {
					t.Errorf("Has(%d) isn't right with %d left", n, left)
				}
			}
			r.Bits(1)
		}
	}
}

// P4.1: Bits and Peek hold n within 0 to 24: more bits are as many as 24, be there more of them or not.
func TestReaderHoldsN(t *testing.T) {
	b := mixed(8, 4)
	for _, n := range extremes {
		for many := range 8 {
			is := 8*many >= within(n)
			want := 0
			if is {
				want = number(listed(b)[:within(n)])
			}
			r := Read(b[:many])
			if v, so := r.Peek(n); v != want || so != is {
				t.Errorf("Peek(%d) of %d bytes: %d %v, wanted %d", n, many, v, so, want)
			}
			if v, so := r.Bits(n); v != want || so != is {
				t.Errorf("Bits(%d) of %d bytes: %d %v, wanted %d", n, many, v, so, want)
			}
			if is && r.Mark() != within(n) || !is && r.Mark() != 0 {
				t.Errorf("Bits(%d) of %d bytes: %d taken", n, many, r.Mark())
			}
		}
	}
}

// P4.1: pieces are one behind the other, wherever they are cut, read at once or added.
func TestPiecesAreOne(t *testing.T) {
	b := mixed(7, 5)
	for i := range len(b) + 1 {
		for j := i; j <= len(b); j++ {
			one, other := Read(b[:i], nil, b[i:j], []byte{}, b[j:]), Read(b[:i])
			other.Add(b[i:j])
			other.Add(nil)
			other.Add(b[j:])
			for _, r := range []*Reader{one, other} {
				m := &toldReader{left: listed(b)}
				for n := 0; n < 12; n++ {
					v, is := r.Bits(n)
					if w, so := m.bits(n); v != w || is != so {
						t.Errorf("cut at %d and %d: Bits(%d): %d %v, wanted %d %v", i, j, n, v, is, w, so)
					}
				}
				sameReader(t, "pieces", r, m)
			}
		}
	}
}

// P4.1: what is added comes behind what is there, in the midst of a byte, and behind the end, too; what was taken stays so.
func TestAdd(t *testing.T) {
	b := mixed(6, 6)
	for taken := range 25 {
		r, m := Read(b[:3]), &toldReader{left: listed(b[:3])}
		r.Bits(taken)
		m.bits(taken)
		r.Add(b[3:])
		m.add(b[3:])
		sameReader(t, "added", r, m)
		r.Back(0)
		m.back(0)
		sameReader(t, "added, and back", r, m)
	}
	r := Read([]byte{0xf0})
	r.Bits(4)
	if v, is := r.Bits(5); v != 0 || is {
		t.Errorf("ahead of Add: %d %v", v, is)
	}
	r.Add([]byte{0x03})
	if v, is := r.Bits(5); v != 31 || !is {
		t.Errorf("over the seam: %d %v", v, is)
	}
}

// P4.1: Align takes bits till a byte begins: none, where one begins, or at the end.
func TestReaderAligns(t *testing.T) {
	for many := range 4 {
		for taken := range 8*many + 1 {
			r := Read(mixed(many, 7))
			for range taken {
				r.Bits(1)
			}
			want := 0
			for (taken+want)%8 != 0 {
				want++
			}
			if got := r.Align(); got != want || r.Mark() != taken+want || r.Left() != 8*many-taken-want {
				t.Errorf("%d of %d bytes: %d, wanted %d; %d taken", taken, many, got, want, r.Mark())
			}
			if again := r.Align(); again != 0 || r.Mark() != taken+want {
				t.Errorf("%d of %d bytes: %d more", taken, many, again)
			}
		}
	}
}

// P4.1: Back goes to each mark from 0 to as many as were taken; ahead of that, and beyond it, it does nothing.
func TestBack(t *testing.T) {
	b := mixed(3, 8)
	for taken := range 25 {
		for _, mark := range append([]int{taken - 1, taken, taken + 1, 24, 25, 4, 5, 6, 10}, extremes...) {
			r, m := Read(b), &toldReader{left: listed(b)}
			r.Bits(taken)
			m.bits(taken)
			r.Back(mark)
			m.back(mark)
			sameReader(t, "back", r, m)
		}
	}
}

// P4.1: behind Back just so many were taken as it says: bits that were taken ahead of it, and are left again, are beyond it.
func TestBackTakesBack(t *testing.T) {
	r := Read([]byte{0xb5, 0x01, 0xff})
	for range 3 {
		r.Bits(8)
	}
	r.Back(11)
	r.Back(24)
	r.Back(12)
	r.Back(-1)
	if r.Mark() != 11 || r.Left() != 13 {
		t.Errorf("%d taken, %d left", r.Mark(), r.Left())
	}
	if v, is := r.Peek(13); v != 8160 || !is {
		t.Errorf("%d %v", v, is)
	}
	r.Back(3)
	if n := r.Align(); n != 5 || r.Mark() != 8 {
		t.Errorf("Align takes %d, %d taken", n, r.Mark())
	}
	r.Bits(2)
	mark := r.Mark()
	r.Bits(14)
	r.Back(mark)
	if v, is := r.Bits(14); v != 0x3fc0 || !is || r.Left() != 0 {
		t.Errorf("again: %x %v", v, is)
	}
}

// P4.1: through many calls, of any kind and order, all that a reader answers is as the model has it.
func TestReaderByModel(t *testing.T) {
	for seed := range int64(60) {
		x := rand.New(rand.NewSource(seed))
		b := mixed(x.Intn(6), seed)
		r, m := Read(b), &toldReader{left: listed(b)}
		for range 120 {
			n := x.Intn(29) - 2
			switch x.Intn(8) {
			case 0:
				r.Add(b[:min(len(b), 3)])
				m.add(b[:min(len(b), 3)])
			case 1:
				if got, want := r.Align(), m.align(); got != want {
					t.Fatalf("seed %d: Align %d, wanted %d", seed, got, want)
				}
			case 2:
				mark := r.Mark() + x.Intn(60) - 50
				r.Back(mark)
				m.back(mark)
			default:
				v, is := r.Bits(n)
				if w, so := m.bits(n); v != w || is != so {
					t.Fatalf("seed %d: Bits(%d): %d %v, wanted %d %v", seed, n, v, is, w, so)
				}
			}
			sameReader(t, "many calls", r, m)
		}
	}
}

// P4.1: a long text is read to its end, and from its beginning again.
func TestLongText(t *testing.T) {
	b := mixed(100003, 9)
	r := Read(b[:50000], b[50000:])
	for range 2 {
		for i := range b {
			if v, is := r.Bits(8); v != int(b[i]) || !is {
				t.Fatalf("byte %d: %d %v, wanted %d", i, v, is, b[i])
			}
		}
		if r.Left() != 0 || r.Mark() != 8*len(b) || r.Has(1) || r.Has(math.MaxInt) {
			t.Fatalf("%d left, %d taken", r.Left(), r.Mark())
		}
		r.Back(0)
	}
}
