package huff

import (
	"math/rand"
	"slices"
	"testing"

	"inquest/api"
	"inquest/bits"
)

// P5.1: codes that are known: the chapter's example, the one of RFC 1951, 3.2.2, and the codes of its 3.2.6.
func TestKnownCodes(t *testing.T) {
	if Whole != 0 || Short != 1 || Over != 2 {
		t.Error(Whole, Short, Over)
	}
	for _, c := range []struct {
		lengths []int
		fill    int
		want    [][2]int
	}{
		{[]int{2, 1, 3, 3}, Whole, [][2]int{{2, 2}, {1, 0}, {3, 6}, {3, 7}}},
		{[]int{3, 3, 3, 3, 3, 2, 4, 4}, Whole, [][2]int{{3, 2}, {3, 3}, {3, 4}, {3, 5}, {3, 6}, {2, 0}, {4, 14}, {4, 15}}},
		{[]int{0, 1, 0, 1, 0}, Whole, [][2]int{{0, 0}, {1, 0}, {0, 0}, {1, 1}, {0, 0}}},
		{[]int{1}, Short, [][2]int{{1, 0}}},
		{[]int{15}, Short, [][2]int{{15, 0}}},
		{[]int{15, 0, 1, 14}, Short, [][2]int{{15, 0x4002}, {0, 0}, {1, 0}, {14, 0x2000}}},
		{[]int{0, 3, 3, 2}, Short, [][2]int{{0, 0}, {3, 2}, {3, 3}, {2, 0}}},
		{nil, Short, nil},
		{[]int{0, 0}, Short, [][2]int{{0, 0}, {0, 0}}},
	} {
		got := made(t, c.lengths...)
		if got.Fill() != c.fill {
			t.Errorf("%v: Fill is %d", c.lengths, got.Fill())
		}
		for s, want := range c.want {
			if n, code := got.Code(s); n != want[0] || code != want[1] {
				t.Errorf("%v: the code of %d: %d %d, wanted %v", c.lengths, s, n, code, want)
			}
		}
	}
	fixed := made(t, slices.Concat(times(144, 8), times(112, 9), times(24, 7), times(8, 8))...)
	for s, want := range map[int][2]int{0: {8, 0x30}, 143: {8, 0xbf}, 144: {9, 0x190}, 255: {9, 0x1ff}, 256: {7, 0}, 279: {7, 0x17}, 280: {8, 0xc0}, 287: {8, 0xc7}} {
		if n, code := fixed.Code(s); n != want[0] || code != want[1] || fixed.Fill() != Whole {
			t.Errorf("fixed: the code of %d: %d %x", s, n, code)
		}
	}
	distances := made(t, times(30, 5)...)
	if n, code := distances.Code(29); n != 5 || code != 29 || distances.Fill() != Short {
		t.Errorf("distances: %d %d, Fill is %d", n, code, distances.Fill())
	}
}

// P5.1: each list of up to five lengths, and some of more, makes the model's codes, or is over.
func TestCodesByModel(t *testing.T) {
	var all [][]int
	for many := range 6 {
		all = append(all, lists(many, 4)...)
	}
	x := rand.New(rand.NewSource(1))
	for range 300 {
		l := wholeOf(x, 2+x.Intn(100))
		all = append(all, l, l[1:], append(slices.Clone(l), 1+x.Intn(15)), append(slices.Clone(l), 0))
	}
	seen := [3]int{}
	for _, l := range all {
		want := fill(l)
		seen[want]++
		c, e := New(l...)
		if want == Over {
			if e != api.ErrData || c != nil {
				t.Errorf("%v: %v, wanted ErrData, and nothing", l, e)
			}
			continue
		}
		if e != api.OK || c == nil {
			t.Errorf("%v: %v, wanted codes", l, e)
			continue
		}
		sameCodes(t, c, l)
	}
	if slices.Min(seen[:]) < 100 {
		t.Errorf("whole, short and over: %v", seen)
	}
}

// P5.1: lengths from 0 to 15 may be, others may not, wherever they stand.
func TestLengthsThatMayBe(t *testing.T) {
	for _, n := range extremes {
		for at := range 4 {
			l := slices.Insert([]int{2, 2, 0}, at, n)
			c, e := New(l...)
			if n >= 0 && n <= 15 {
				if e != api.OK || c == nil {
					t.Errorf("%v: %v", l, e)
				} else {
					sameCodes(t, c, l)
				}
			} else if e != api.ErrArg || c != nil {
				t.Errorf("%v: %v, wanted ErrArg, and nothing", l, e)
			}
		}
	}
	for n := range 16 {
		sameCodes(t, made(t, n), []int{n})
	}
}

// P5.1: 320 lengths may be, one more may not, whatever they are.
func TestHowManyLengths(t *testing.T) {
	for _, n := range []int{0, 9, 15} {
		l := times(320, n)
		sameCodes(t, made(t, l...), l)
		l[319] = 2
		sameCodes(t, made(t, l...), l)
	}
	for _, n := range []int{-1, 0, 1, 8, 9, 15, 16} {
		for _, many := range []int{321, 322, 640, 1 << 16} {
			if c, e := New(times(many, n)...); e != api.ErrArg || c != nil {
				t.Errorf("%d lengths of %d: %v, wanted ErrArg, and nothing", many, n, e)
			}
		}
	}
	l := append(times(256, 8), times(64, 0)...)
	sameCodes(t, made(t, l...), l)
}

// P5.1: just what is too much for the longest code is over, and just what it lacks is short.
func TestOverByOne(t *testing.T) {
	for most := 1; most <= 15; most++ {
		short := stairs(most)
		whole := append(stairs(most), most)
		over := append(slices.Clone(whole), 15)
		if c := made(t, short...); c.Fill() != Short {
			t.Errorf("%v: Fill is %d", short, c.Fill())
		}
		if c := made(t, whole...); c.Fill() != Whole {
			t.Errorf("%v: Fill is %d", whole, c.Fill())
		}
		if c, e := New(over...); e != api.ErrData || c != nil {
			t.Errorf("%v: %v, wanted ErrData, and nothing", over, e)
		}
	}
	for _, l := range [][]int{{1, 1, 1}, {2, 2, 2, 2, 2}, {1, 2, 2, 15}, {15, 1, 1}, times(257, 8), times(320, 8), times(320, 1)} {
		if c, e := New(l...); e != api.ErrData || c != nil {
			t.Errorf("%v: %v, wanted ErrData, and nothing", l, e)
		}
	}
}

// R2 and P5.1: of both errors ErrArg is told, whatever else is over.
func TestErrArgIsFirst(t *testing.T) {
	for _, l := range [][]int{{1, 1, 1, 16}, {16, 1, 1, 1}, {1, 1, 1, -1}, {-1, 1, 1, 1}, times(321, 1), append(times(320, 1), -1)} {
		if c, e := New(l...); e != api.ErrArg || c != nil {
			t.Errorf("%d lengths: %v, wanted ErrArg, and nothing", len(l), e)
		}
	}
}

// P5.2: of each list of up to four lengths, each text of up to six bits is read as the model reads it.
func TestNextOfAllTexts(t *testing.T) {
	var texts []string
	for many := range 7 {
		for v := range 1 << many {
			texts = append(texts, digits(v, many)[:many])
		}
	}
	for many := range 5 {
		for _, l := range lists(many, 4) {
			if fill(l) == Over {
				continue
			}
			c, codes := made(t, l...), told(l)
			for _, text := range texts {
				sameNext(t, c, codes, text)
			}
		}
	}
}

// P5.2: of codes of up to 15 bits, of 320 symbols, and with some codes lacking, texts of 0 to 40 bits are read as the model reads them, also those that end within a code.
func TestNextByModel(t *testing.T) {
	x := rand.New(rand.NewSource(2))
	for i := range 60 {
		l := wholeOf(x, 2+x.Intn(319))
		for range i % 3 * 5 {
			l[x.Intn(len(l))] = 0
		}
		c, codes := made(t, l...), told(l)
		for range 40 {
			text := codes[x.Intn(len(codes))] + digits(x.Intn(1<<25), 25)
			for _, many := range []int{0, 1, x.Intn(15), 14, 15, 16, len(text)} {
				sameNext(t, c, codes, text[:min(many, len(text))])
			}
		}
	}
}

// P5.2: at the edges: bits that end ahead of a code's end, by one bit, too; bits that begin no code, as few as they are; the greatest length.
func TestNextAtTheEdges(t *testing.T) {
	ones := "111111111111111"
	for _, c := range []struct {
		lengths []int
		text    string
		want    int
		e       api.Errno
	}{
		{[]int{2, 1, 3, 3}, "", 0, api.ErrEnd},
		{[]int{2, 1, 3, 3}, "1", 0, api.ErrEnd},
		{[]int{2, 1, 3, 3}, "11", 0, api.ErrEnd},
		{[]int{2, 1, 3, 3}, "0", 1, api.OK},
		{[]int{2, 1, 3, 3}, "10", 0, api.OK},
		{[]int{2, 1, 3, 3}, "110", 2, api.OK},
		{[]int{2, 1, 3, 3}, "111", 3, api.OK},
		{[]int{1}, "", 0, api.ErrEnd},
		{[]int{1}, "0", 0, api.OK},
		{[]int{1}, "1", 0, api.ErrData},
		{[]int{1}, "10", 0, api.ErrData},
		{nil, "", 0, api.ErrData},
		{nil, "0", 0, api.ErrData},
		{nil, ones + "1", 0, api.ErrData},
		{times(320, 0), "", 0, api.ErrData},
		{times(30, 5), "1111", 0, api.ErrData},
		{times(30, 5), "1110", 0, api.ErrEnd},
		{times(30, 5), "11101", 29, api.OK},
		{times(30, 5), "11110", 0, api.ErrData},
		{append(stairs(15), 15), ones[:14], 0, api.ErrEnd},
		{append(stairs(15), 15), ones, 15, api.OK},
		{append(stairs(15), 15), ones[:14] + "0", 14, api.OK},
		{stairs(15), ones[:14], 0, api.ErrEnd},
		{stairs(15), ones, 0, api.ErrData},
		{stairs(15), ones + "0", 0, api.ErrData},
		{stairs(14), ones[:13], 0, api.ErrEnd},
		{stairs(14), ones[:14], 0, api.ErrData},
		{[]int{15}, "00000000000000", 0, api.ErrEnd},
		{[]int{15}, "000000000000000", 0, api.OK},
		{[]int{15}, "000000000000001", 0, api.ErrData},
		{[]int{15}, "0000000000000010", 0, api.ErrData},
		{[]int{15}, "1", 0, api.ErrData},
	} {
		code := made(t, c.lengths...)
		r := reader(c.text)
		if s, e := code.Next(r); s != c.want || e != c.e {
			t.Errorf("%v: the next of %q: %d %v, wanted %d %v", c.lengths, c.text, s, e, c.want, c.e)
		}
		n, _ := code.Code(c.want)
		if c.e != api.OK {
			n = 0
		}
		if r.Left() != len(c.text)-n {
			t.Errorf("%v: behind the next of %q %d bits are left", c.lengths, c.text, r.Left())
		}
	}
}

// P5.2: symbols that are written by their codes are read, one behind the other, with just their bits taken; then the bits end.
func TestWrittenIsRead(t *testing.T) {
	x := rand.New(rand.NewSource(3))
	for range 20 {
		l := wholeOf(x, 2+x.Intn(319))
		c := made(t, l...)
		w := bits.Write()
		var symbols []int
		for range 500 {
			s := x.Intn(len(l))
			symbols = append(symbols, s)
			w.Code(c.Code(s))
		}
		r := bits.Read(w.Bytes())
		at := 0
		for i, want := range symbols {
			s, e := c.Next(r)
			at += l[want]
			if s != want || e != api.OK || r.Mark() != at {
				t.Fatalf("%v: symbol %d: %d %v at %d, wanted %d at %d", l, i, s, e, r.Mark(), want, at)
			}
		}
	}
}

// P5.2 and R2: beside ErrEnd nothing is taken: when the bits that lack come, the code is whole.
func TestNextGoesOn(t *testing.T) {
	whole := append(stairs(15), 15)
	c, codes := made(t, whole...), told(whole)
	for s, code := range codes {
		w := bits.Write()
		w.Code(c.Code(s))
		w.Bits(1, 1)
		b := w.Bytes()
		r := bits.Read()
		for {
			got, e := c.Next(r)
			if r.Left() >= len(code) || e != api.ErrEnd {
				t.Errorf("%q: %d %v at %d", code, got, e, r.Mark())
				break
			}
			if got != 0 || r.Mark() != 0 {
				t.Errorf("%q: %d beside %v, %d bits taken", code, got, e, r.Mark())
			}
			r.Add(b[:1])
			b = b[1:]
			if r.Left() >= len(code) {
				if got, e := c.Next(r); got != s || e != api.OK || r.Mark() != len(code) {
					t.Errorf("%q: %d %v, %d bits taken", code, got, e, r.Mark())
				}
				break
			}
		}
	}
}
