package huff

import (
	"math/rand"
	"slices"
	"testing"

	"inquest/api"
	"inquest/bits"
)

// R1 and P5.3: of a nil Code Next tells ErrNil and 0, and takes nothing; Code tells 0, 0; Fill is Over.
func TestNilCode(t *testing.T) {
	var c *Code
	if c.Fill() != Over {
		t.Errorf("Fill is %d", c.Fill())
	}
	for _, s := range extremes {
		if n, code := c.Code(s); n != 0 || code != 0 {
			t.Errorf("the code of %d: %d %d", s, n, code)
		}
	}
	r := bits.Read([]byte{0x5a, 0xc3, 1})
	r.Bits(5)
	for _, x := range []*bits.Reader{r, bits.Read(), nil} {
		if s, e := c.Next(x); s != 0 || e != api.ErrNil {
			t.Errorf("%d %v, wanted ErrNil", s, e)
		}
	}
	if r.Mark() != 5 || r.Left() != 19 {
		t.Errorf("%d taken, %d left", r.Mark(), r.Left())
	}
}

// R1 and P5.2: a nil Reader has no bits: they end ahead of a code's end, and where there is no code at all, none begins with them.
func TestNilReader(t *testing.T) {
	for _, l := range [][]int{{1}, {15}, {2, 1, 3, 3}, times(320, 9)} {
		if s, e := made(t, l...).Next(nil); s != 0 || e != api.ErrEnd {
			t.Errorf("%v: %d %v, wanted ErrEnd", l, s, e)
		}
	}
	for _, l := range [][]int{nil, {0}, times(320, 0)} {
		if s, e := made(t, l...).Next(nil); s != 0 || e != api.ErrData {
			t.Errorf("%v: %d %v, wanted ErrData", l, s, e)
		}
	}
}

// R1: no call panics, whatever it is given.
func TestAllArguments(t *testing.T) {
	x := rand.New(rand.NewSource(8))
	for range 3000 {
		l := make([]int, x.Intn(12))
		for i := range l {
			l[i] = extremes[x.Intn(len(extremes))]
			if x.Intn(3) > 0 {
				l[i] = x.Intn(18) - 1
			}
		}
		c, e := New(l...)
		if (c == nil) != (e != api.OK) {
			t.Fatalf("%v: %v", l, e)
		}
		r := bits.Read([]byte{byte(x.Int()), byte(x.Int()), byte(x.Int())}[:x.Intn(4)])
		for range 4 {
			c.Next(r)
			r.Bits(x.Intn(5))
		}
		for _, s := range extremes {
			c.Code(s)
		}
		Lengths(l, extremes[x.Intn(len(extremes))])
		c.Fill()
	}
}

// R2: what tells an error has changed nothing: neither the reader nor the codes.
func TestErrorsChangeNothing(t *testing.T) {
	l := []int{3, 0, 2, 3, 5}
	c, codes := made(t, l...), told(l)
	for _, text := range []string{"", "0", "01", "1", "11", "100", "1000", "10001", "101", "1111111111111111"} {
		r := reader(text)
		left, mark := r.Left(), r.Mark()
		_, _, want := nextOf(codes, text)
		for range 3 {
			if s, e := c.Next(r); want != api.OK && (s != 0 || e != want || r.Left() != left || r.Mark() != mark) {
				t.Errorf("%q: %d %v, %d left, wanted %v, %d left", text, s, e, r.Left(), want, left)
			}
		}
		sameCodes(t, c, l)
		sameNext(t, c, codes, "10000")
	}
}

// R3: nil and empty lists are one, handed in and answered.
func TestNilIsEmpty(t *testing.T) {
	for _, l := range [][]int{nil, {}, make([]int, 0, 9)} {
		c := made(t, l...)
		sameCodes(t, c, nil)
		if len(Lengths(l, 15)) != 0 || len(Lengths(l, 1)) != 0 {
			t.Errorf("%v: %v", l, Lengths(l, 15))
		}
	}
	sameCodes(t, made(t), nil)
}

// spare is l with room behind it, filled with x, so that a write into it is seen.
func spare(l []int, room, x int) []int {
	whole := append(slices.Clone(l), times(room, x)...)
	return whole[:len(l)]
}

// turn turns over all of l, its spare room, too.
func turn(l []int) {
	l = l[:cap(l)]
	for i := range l {
		l[i] = ^l[i]
	}
}

// R4: numbers that are handed in stay as they were, spare room included.
func TestArgumentsStay(t *testing.T) {
	for _, was := range [][]int{{2, 1, 3, 3}, {1, 1, 1}, {5, -4, 1, 0, 900, 2, 16}, {9, 8, 7, 6, 5, 4, 3, 2, 1}, times(320, 9), times(321, 1), nil} {
		l := spare(was, 40, 1)
		before := slices.Clone(l[:cap(l)])
		New(l...)
		for _, most := range []int{-1, 1, 4, 15} {
			Lengths(l, most)
		}
		if !slices.Equal(l[:cap(l)], before) {
			t.Errorf("%v turned to %v", before, l[:cap(l)])
		}
	}
}

// R4: lengths that are handed in aren't kept: turned over behind New, the codes are what they were.
func TestArgumentsAreNotKept(t *testing.T) {
	for _, was := range [][]int{{2, 1, 3, 3}, {0, 1}, {15, 4, 4, 0, 2}, times(320, 9)} {
		l := spare(was, 5, 3)
		c := made(t, l...)
		turn(l)
		sameCodes(t, c, was)
		for _, text := range []string{"0", "1", "10", "110", "0000", "111111111", "000000000000000"} {
			sameNext(t, c, told(was), text)
		}
	}
}

// R4: what Lengths answers is new: turned over, spare room included, it changes neither the counts nor another answer.
func TestAnswersAreNew(t *testing.T) {
	for _, counts := range [][]int{{5, 0, 1, 1, 2}, {0, 7}, {0, 0}, {1, 1}, times(320, 4)} {
		l := slices.Clone(counts)
		kept := Lengths(l, 15)
		was := slices.Clone(kept)
		turn(Lengths(l, 15))
		if !slices.Equal(l, counts) || !slices.Equal(kept, was) || !slices.Equal(Lengths(l, 15), was) {
			t.Errorf("%v: %v, kept %v, it was %v", counts, l, kept, was)
		}
	}
}

// R5: what is answered hangs on the arguments, and on what the object has been through, alone: not on spare room, nor on other objects, nor on being asked again.
func TestObjectsStandAlone(t *testing.T) {
	one, other := []int{2, 1, 3, 3}, []int{1, 0, 2, 3, 15}
	first, second := made(t, slices.Clip(one)...), made(t, spare(other, 9, 2)...)
	again := made(t, spare(one, 99, 1)...)
	for range 3 {
		for _, text := range []string{"", "0", "10", "110", "111", "1110", "111111111111111"} {
			sameNext(t, first, told(one), text)
			sameNext(t, second, told(other), text)
			sameNext(t, again, told(one), text)
		}
		sameCodes(t, first, one)
		sameCodes(t, second, other)
		sameCodes(t, again, one)
	}
	r := reader("10" + "110" + "0")
	for _, want := range []int{0, 2, 1} {
		c := first
		if want == 2 {
			c = again
		}
		if s, e := c.Next(r); s != want || e != api.OK {
			t.Errorf("%d %v, wanted %d", s, e, want)
		}
	}
	x := rand.New(rand.NewSource(9))
	for range 50 {
		counts := make([]int, x.Intn(321))
		for i := range counts {
			counts[i] = x.Intn(9)
		}
		want := Lengths(slices.Clip(counts), 10)
		if l := Lengths(spare(counts, 50, 7), 10); !slices.Equal(l, want) {
			t.Errorf("%v: %v, wanted %v", counts, l, want)
		}
	}
}
