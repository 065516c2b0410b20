package inflate

import (
	"fmt"
	"math/rand"
	"slices"
	"strings"
	"testing"

	"inquest/api"
)

// toldAt tells whether what part makes is told wrong just when its last bit is there, wherever in a byte that is, whatever stands behind it, and whether ErrEnd is told ahead of that.
func toldAt(t *testing.T, what string, part func(p *packer)) {
	t.Helper()
	for shift := range 8 {
		p := shifted(shift)
		part(p)
		n := p.text.Len()
		for _, filler := range []string{"0", "1"} {
			b := append(bytesOf(p.text.String()+strings.Repeat(filler, -n&7)), 0xff, 0)
			for cut := range len(b) + 1 {
				if shift > 0 && cut%16 > 0 && cut < len(b)-4 {
					continue
				}
				e := api.ErrEnd
				if 8*cut >= n {
					e = api.ErrData
				}
				unpacks(t, fmt.Sprintf("%s, behind %d bytes, %d of %d bits", what, shift, 8*cut, n), b[:cut], p.outOf(8*cut), 0, e)
			}
		}
	}
}

// P6.1, P6.2: a block of kind 3 is told by its three bits, be it the last one or not.
func TestKind3(t *testing.T) {
	toldAt(t, "kind 3", func(p *packer) { p.head(false, 3) })
	toldAt(t, "the last, of kind 3", func(p *packer) { p.head(true, 3) })
}

// P6.1, P6.2: a stored length whose turned-over isn't so is told by its four bytes, whichever bit is wrong.
func TestTurnedOver(t *testing.T) {
	for i := range 16 {
		for _, n := range []int{0, 1, 0x1234, 65535} {
			toldAt(t, fmt.Sprintf("stored %d, bit %d", n, i), func(p *packer) {
				p.head(i%2 == 0, 0)
				p.align()
				p.num(16, n)
				p.num(16, 65535-n^1<<i)
			})
		}
	}
}

// P6.1, P6.2: more than 286 symbols, or 30 distances, are told by the first fourteen bits.
func TestTooMany(t *testing.T) {
	for _, c := range [][2]int{{287, 1}, {288, 1}, {257, 31}, {257, 32}, {286, 31}, {287, 30}, {288, 32}} {
		for _, heads := range []int{0, 15} {
			toldAt(t, fmt.Sprint(c), func(p *packer) {
				p.head(true, 2)
				p.num(5, c[0]-257)
				p.num(5, c[1]-1)
				p.num(4, heads)
			})
		}
	}
}

// lengthsOfHeads has, behind a block's head, so many lengths of the code of lengths, in their order.
func (p *packer) lengthsOfHeads(symbols, distances int, l ...int) {
	p.head(true, 2)
	p.num(5, symbols-257)
	p.num(5, distances-1)
	p.num(4, len(l)-4)
	for _, n := range l {
		p.num(3, n)
	}
}

// P6.1, P6.2: a code of lengths that is over, or short, is told by all of its lengths; one symbol alone is whole with length 1 only.
func TestCodeOfLengths(t *testing.T) {
	for _, l := range [][]int{
		{0, 0, 0, 0},
		{2, 0, 0, 0},
		{0, 0, 0, 7},
		{1, 2, 0, 0},
		{2, 2, 2, 0},
		{1, 1, 1, 0},
		{1, 1, 0, 0, 0, 0, 7},
		{2, 2, 2, 2, 7},
		{7, 7, 0, 1},
		slices.Repeat([]int{0}, 19),
		slices.Repeat([]int{7}, 19),
		slices.Repeat([]int{4}, 19),
		slices.Repeat([]int{5}, 19),
		append(slices.Repeat([]int{0}, 18), 3),
	} {
		toldAt(t, fmt.Sprint(l), func(p *packer) { p.lengthsOfHeads(257, 1, l...) })
	}
}

// P6.1, P6.2: a 16 ahead of all lengths is told by its code alone.
func TestRepeatOfNothing(t *testing.T) {
	toldAt(t, "16", func(p *packer) {
		p.toldHead(true, 257, 1, headLengths())
		p.text.WriteString(bookOf(headLengths()).texts[16])
	})
	toldAt(t, "16 alone", func(p *packer) {
		p.lengthsOfHeads(257, 1, 1, 0, 0, 0)
		p.text.WriteString("0")
	})
}

// repeats begins a block of kind 2 up to where only so many lengths lack.
func (p *packer) repeats(symbols, distances, lack int) {
	p.toldHead(true, symbols, distances, headLengths())
	p.times(8, symbols+distances-lack)
}

// times has a length behind so many times, one by one.
func (p *packer) times(n, times int) {
	p.text.WriteString(strings.Repeat(bookOf(headLengths()).texts[n], times))
}

// repeat has one of 16 to 18 behind, that stands for so many lengths.
func (p *packer) repeat(symbol, times int) {
	p.text.WriteString(bookOf(headLengths()).texts[symbol])
	p.num([]int{2, 3, 7}[symbol-16], times-[]int{3, 3, 11}[symbol-16])
}

// P6.1, P6.2: a repeat beyond the end is told with its own bits, be it ever so plain by its code.
func TestRepeatBeyond(t *testing.T) {
	for _, c := range []struct{ symbol, least, most int }{{16, 3, 6}, {17, 3, 10}, {18, 11, 138}} {
		for times := c.least; times <= c.most; times += 1 + times/11*20 {
			for _, lack := range []int{1, times - 1} {
				toldAt(t, fmt.Sprintf("%d for %d with %d to go", c.symbol, times, lack), func(p *packer) {
					p.repeats(286, 30, lack)
					p.repeat(c.symbol, times)
				})
			}
		}
	}
}

// lengthsOf are lengths of so many symbols, told by some of them: symbol, length.
func lengthsOf(many int, some ...[2]int) []int {
	l := make([]int, many)
	for _, s := range some {
		l[s[0]] = s[1]
	}
	return l
}

// P6.1, P6.2: codes of symbols, and of distances, that are over or short, and no code for 256, are told by all lengths.
func TestCodes(t *testing.T) {
	half := lengthsOf(257, [2]int{0, 1}, [2]int{256, 1})
	for i, c := range [][2][]int{
		{lengthsOf(257), {1}},
		{lengthsOf(257, [2]int{0, 1}, [2]int{1, 1}), {1}},
		{lengthsOf(258, [2]int{257, 1}), {0}},
		{append(slices.Repeat([]int{8}, 256), 0), {1}},
		{lengthsOf(257, [2]int{0, 1}, [2]int{1, 1}, [2]int{256, 1}), {1}},
		{lengthsOf(286, [2]int{0, 1}, [2]int{1, 1}, [2]int{256, 15}), {1}},
		{lengthsOf(257, [2]int{0, 1}, [2]int{256, 2}), {1}},
		{lengthsOf(257, [2]int{256, 2}), {1}},
		{lengthsOf(257, [2]int{256, 15}), {0}},
		{slices.Repeat([]int{9}, 257), {1}},
		{slices.Repeat([]int{8}, 257), {1}},
		{half, {1, 1, 1}},
		{half, {1, 1, 15}},
		{half, {1, 2}},
		{half, {2}},
		{half, {0, 0, 15}},
		{half, {2, 2, 2}},
		{half, slices.Repeat([]int{5}, 30)},
		{half, slices.Repeat([]int{4}, 30)},
	} {
		toldAt(t, fmt.Sprintf("lengths %d", i), func(p *packer) { p.told(true, c[0], c[1]) })
	}
}

// P6.1, P6.2: a code of lengths that is one symbol's alone, of length 1, is right as such: what isn't are the lengths that it tells, all of them, or a code that is nobody's.
func TestLengthsByOneSymbol(t *testing.T) {
	for i, l := range [][]int{{0, 0, 0, 1}, {0, 0, 0, 0, 1}, {0, 0, 0, 0, 0, 0, 1}} {
		toldAt(t, fmt.Sprintf("all lengths by the one symbol %d", i), func(p *packer) {
			p.lengthsOfHeads(270, 9, l...)
			p.num(279, 0)
		})
		toldAt(t, fmt.Sprintf("not the one symbol %d", i), func(p *packer) {
			p.lengthsOfHeads(270, 9, l...)
			p.num(20, 0)
			p.num(1, 1)
		})
	}
	toldAt(t, "zeros by 18", func(p *packer) {
		p.lengthsOfHeads(270, 6, 0, 0, 1, 0)
		p.num(8, 254)
		p.num(8, 254)
	})
}

// P6.1, P6.2: a code that is nobody's is told as soon as none begins so: where there is no code at all, with no bit of it.
func TestNobodysCode(t *testing.T) {
	symbols := lengthsOf(286, [2]int{'a', 3}, [2]int{'b', 3}, [2]int{256, 2}, [2]int{257, 2}, [2]int{284, 2})
	toldAt(t, "not 256", func(p *packer) {
		p.told(true, lengthsOf(257, [2]int{256, 1}), []int{1})
		p.num(1, 1)
	})
	for _, d := range [][]int{{0}, {0, 0, 0}, slices.Repeat([]int{0}, 30)} {
		toldAt(t, "no distance at all", func(p *packer) {
			p.told(true, symbols, d)
			p.lit('a')
			p.text.WriteString(p.symbols.texts[257])
		})
		toldAt(t, "no distance at all, behind own bits", func(p *packer) {
			p.told(true, symbols, d)
			p.lit('b', 'b')
			p.text.WriteString(p.symbols.texts[284])
			p.num(5, 9)
		})
	}
	for _, d := range [][]int{{1}, {0, 1, 0}, append(slices.Repeat([]int{0}, 29), 1)} {
		toldAt(t, "not the one distance", func(p *packer) {
			p.told(true, symbols, d)
			p.lit('a', 'b', 'a')
			p.text.WriteString(p.symbols.texts[257] + "1")
		})
	}
}

// P6.1, P6.2: a symbol above 285, and a distance above 29, are told by their codes alone.
func TestAboveAll(t *testing.T) {
	for s := 286; s < 288; s++ {
		toldAt(t, fmt.Sprint("symbol ", s), func(p *packer) {
			p.fixed(true)
			p.lit('a')
			p.text.WriteString(p.symbols.texts[s])
		})
	}
	for d := 30; d < 32; d++ {
		toldAt(t, fmt.Sprint("distance ", d), func(p *packer) {
			p.fixed(true)
			p.lit('a')
			p.text.WriteString(p.symbols.texts[270])
			p.num(lengthBits[270-257], 1)
			p.text.WriteString(p.distances.texts[d])
		})
	}
}

// P6.1, P6.2: a distance farther back than there are bytes is told with its own bits, be it ever so plain by its code.
func TestTooFarBack(t *testing.T) {
	for _, many := range []int{0, 1, 2, 3, 4, 5, 6, 24, 256} {
		for _, more := range []int{1, 2, 5, 3000, 32768 - many - 8} {
			toldAt(t, fmt.Sprintf("%d behind %d bytes", more, many), func(p *packer) {
				p.stored(false, make([]byte, many))
				p.fixed(true)
				p.copyBits(9, len(p.out)+more)
			})
		}
	}
}

// P6.1, P6.2: bytes are counted over all blocks; as far back as there are bytes is right, one farther isn't, up to Window.
func TestFarthestBack(t *testing.T) {
	for _, many := range []int{1, 2, 1000, 16384, 32766, 32767} {
		for more := range 2 {
			p := &packer{}
			p.stored(false, make([]byte, many-1))
			p.fixed(true)
			p.lit('x')
			if more == 0 {
				p.copy(4, many)
				p.end()
				packed(t, fmt.Sprint("as far as ", many), p)
				continue
			}
			p.copyBits(4, many+1)
			unpacks(t, fmt.Sprint("farther than ", many), append(p.bytes(), 0), p.out, 0, api.ErrData)
		}
	}
}

// P6.1: what is told as right by the chapter's exceptions is: distances without any code where none is asked for, one distance alone, 256 alone.
func TestShortButRight(t *testing.T) {
	symbols := lengthsOf(286, [2]int{'a', 2}, [2]int{'b', 2}, [2]int{256, 2}, [2]int{285, 2})
	for _, d := range [][]int{{0}, slices.Repeat([]int{0}, 30), {1}, {0, 1}} {
		p := &packer{}
		p.told(true, symbols, d)
		p.lit('a', 'b', 'a')
		for back, n := range d {
			if n == 1 {
				p.copy(258, back+1)
			}
		}
		p.end()
		packed(t, fmt.Sprint("distances ", d), p)
	}
	for _, d := range [][]int{{0}, {1}, {1, 1}, {2, 2, 2, 2}} {
		p := &packer{}
		p.told(false, lengthsOf(257, [2]int{256, 1}), d)
		p.end()
		p.told(true, lengthsOf(286, [2]int{256, 1}), d)
		p.end()
		packed(t, fmt.Sprint("256 alone, distances ", d), p)
	}
}

// P6.1: lengths are told by repeats of each number of times, of zeros and of others, up to just the end, and from symbols over to distances.
func TestRepeats(t *testing.T) {
	seen := map[[2]int]bool{}
	for seed := range int64(900) {
		x := rand.New(rand.NewSource(seed))
		p := &packer{}
		symbols, distances := 257+x.Intn(30), 1+x.Intn(30)
		some := someOf(x, symbols, 1, 256)
		if x.Intn(2) == 0 {
			some = some[:1+x.Intn(min(len(some), 8))]
		}
		l := wholeLengths(x, symbols, some)
		if x.Intn(3) == 0 {
			l = lengthsOf(symbols, [2]int{256, 2}, [2]int{255, 2}, [2]int{254, 2}, [2]int{253, 3}, [2]int{252, 3})
		}
		d := wholeLengths(x, distances, someOf(x, distances, 1))
		if x.Intn(2) == 0 {
			d = make([]int, distances)
		}
		p.toldByRepeats(l, d, x, seen)
		for range 20 {
			p.any(x)
		}
		p.end()
		packed(t, fmt.Sprint("repeats of ", seed), p)
	}
	for _, c := range []struct{ symbol, least, most int }{{16, 3, 6}, {17, 3, 10}, {18, 11, 138}, {repeatOver, 3, 6}, {repeatToEnd, 16, 18}} {
		for n := c.least; n <= c.most; n++ {
			if !seen[[2]int{c.symbol, n}] {
				t.Errorf("%d never stood for %d", c.symbol, n)
			}
		}
	}
}

// What else toldByRepeats has seen: a 16 that begins with the distances, so many times, and a repeat up to the end, by its symbol.
const (
	repeatOver  = 100
	repeatToEnd = 101
)

// toldByRepeats is told, with repeats by chance wherever there can be some, and notes those.
func (p *packer) toldByRepeats(symbols, distances []int, x *rand.Rand, seen map[[2]int]bool) {
	p.toldHead(true, len(symbols), len(distances), headLengths())
	l := slices.Concat(symbols, distances)
	for at := 0; at < len(l); {
		run := 0
		for at+run < len(l) && l[at+run] == l[at] {
			run++
		}
		symbol, least, most := 0, 1, 0
		switch how := x.Intn(8); {
		case how < 3 && at > 0 && l[at-1] == l[at]:
			symbol, least, most = 16, 3, 6
		case how < 4 && l[at] == 0:
			symbol, least, most = 17, 3, 10
		case how < 7 && l[at] == 0:
			symbol, least, most = 18, 11, 138
		}
		if run < least || symbol == 0 {
			p.times(l[at], 1)
			at++
			continue
		}
		times := least + x.Intn(min(most, run)-least+1)
		p.repeat(symbol, times)
		seen[[2]int{symbol, times}] = true
		if symbol == 16 && at == len(symbols) {
			seen[[2]int{repeatOver, times}] = true
		}
		if at += times; at == len(l) {
			seen[[2]int{repeatToEnd, symbol}] = true
		}
	}
	p.symbols, p.distances = bookOf(symbols), bookOf(distances)
}
