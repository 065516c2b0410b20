package deflate

import (
	"bytes"
	"fmt"
	"math"
	"math/rand"
	"slices"
	"testing"
)

// told is a symbol as it stands in packed data: a byte, or, if back isn't 0, a copy of so many bytes from so far back.
type told struct {
	one        byte
	long, back int
}

// walked is a block as the RFC has it: its kind, whether it is the last one, its bytes, its symbols (but the end), the lengths of its codes, the code of lengths' ahead, and by how many symbols of that one the other ones' are told.
type walked struct {
	kind                    int
	last                    bool
	bytes                   []byte
	tolds                   []told
	lengths, symbols, backs []int
	heads, parts            int
}

// walker goes through packed data bit by bit, as RFC 1951 tells them, and takes nothing that a strict reader wouldn't; it leaves what it does by a panic of why.
type walker struct {
	b   []byte
	at  int
	out []byte
}

// walk are the blocks of p, and what they unpack to. They have to take all of p, zeros filling the last byte.
func walk(t *testing.T, what string, p []byte) ([]walked, []byte) {
	t.Helper()
	w := &walker{b: p}
	blocks, why := w.all()
	if why == "" && (w.at+7)/8 != len(p) {
		why = fmt.Sprintf("%d bits are taken of %d bytes", w.at, len(p))
	}
	if why == "" && w.at%8 != 0 && p[len(p)-1]>>(w.at%8) != 0 {
		why = "the last byte isn't filled with zeros"
	}
	if why != "" {
		t.Fatalf("%s: %x: %s", what, head(p), why)
	}
	return blocks, w.out
}

func (w *walker) all() (blocks []walked, why string) {
	defer func() {
		if x := recover(); x != nil {
			why = fmt.Sprint(x)
		}
	}()
	for len(blocks) == 0 || !blocks[len(blocks)-1].last {
		blocks = append(blocks, w.block())
	}
	return blocks, ""
}

func need(is bool, why string) {
	if !is {
		panic(why)
	}
}

func (w *walker) bit() int {
	need(w.at < 8*len(w.b), "the bits end")
	x := w.b[w.at/8] >> (w.at % 8) % 2
	w.at++
	return int(x)
}

func (w *walker) num(n int) int {
	v := 0
	for i := range n {
		v += w.bit() << i
	}
	return v
}

func (w *walker) block() walked {
	from := len(w.out)
	block := walked{last: w.bit() == 1, kind: w.num(2)}
	switch block.kind {
	case 0:
		w.stored()
	case 1:
		w.coded(&block, fixedLengths(), slices.Repeat([]int{5}, 32))
	case 2:
		w.dynamic(&block)
	default:
		panic("a block of kind 3")
	}
	block.bytes = w.out[from:]
	return block
}

func (w *walker) stored() {
	for w.at%8 != 0 {
		need(w.bit() == 0, "no zero ahead of what is stored")
	}
	n, turned := w.num(16), w.num(16)
	need(n+turned == 65535, "the stored length isn't turned over")
	need(w.at+8*n <= 8*len(w.b), "the stored bytes end")
	w.out = append(w.out, w.b[w.at/8:w.at/8+n]...)
	w.at += 8 * n
}

// fixedLengths are those of RFC 1951, 3.2.6.
func fixedLengths() []int {
	var l []int
	for i := range 288 {
		switch {
		case i <= 143:
			l = append(l, 8)
		case i <= 255:
			l = append(l, 9)
		case i <= 279:
			l = append(l, 7)
		default:
			l = append(l, 8)
		}
	}
	return l
}

func (w *walker) dynamic(block *walked) {
	symbols, backs, heads := w.num(5)+257, w.num(5)+1, w.num(4)+4
	need(symbols <= 286 && backs <= 30, "more symbols or distances than may be")
	block.lengths = make([]int, 19)
	for _, s := range []int{16, 17, 18, 0, 8, 7, 9, 6, 10, 5, 11, 4, 12, 3, 13, 2, 14, 1, 15}[:heads] {
		block.lengths[s] = w.num(3)
	}
	need(full(block.lengths), "the code of lengths isn't whole")
	block.heads = heads
	all, parts := w.told(bookOf(block.lengths), symbols+backs)
	block.parts = parts
	need(len(all) == symbols+backs, "a repeat goes beyond the end")
	need(all[256] > 0, "the end has no code")
	need(full(all[:symbols]), "the symbols' code isn't whole")
	many := 0
	for _, n := range all[symbols:] {
		many += min(n, 1)
	}
	need(full(all[symbols:]) || many == 0 || many == 1 && slices.Max(all[symbols:]) == 1, "the distances' code isn't right")
	w.coded(block, all[:symbols], all[symbols:])
}

// full tells whether codes of these lengths take all texts of 15 bits.
func full(l []int) bool {
	sum := 0
	for _, n := range l {
		if n > 0 {
			sum += 1 << (15 - n)
		}
	}
	return sum == 1<<15
}

// told are so many lengths at least, and by how many symbols they are told.
func (w *walker) told(b book, many int) ([]int, int) {
	var all []int
	parts := 0
	for ; len(all) < many; parts++ {
		s := w.symbol(b)
		switch s {
		case 16:
			need(len(all) > 0, "a repeat of nothing")
			all = append(all, slices.Repeat(all[len(all)-1:], w.num(2)+3)...)
		case 17:
			all = append(all, make([]int, w.num(3)+3)...)
		case 18:
			all = append(all, make([]int, w.num(7)+11)...)
		default:
			all = append(all, s)
		}
	}
	return all, parts
}

// The lists of RFC 1951, 3.2.5.
var (
	longBits = []int{0, 0, 0, 0, 0, 0, 0, 0, 1, 1, 1, 1, 2, 2, 2, 2, 3, 3, 3, 3, 4, 4, 4, 4, 5, 5, 5, 5, 0}
	longFrom = []int{3, 4, 5, 6, 7, 8, 9, 10, 11, 13, 15, 17, 19, 23, 27, 31, 35, 43, 51, 59, 67, 83, 99, 115, 131, 163, 195, 227, 258}
	backBits = []int{0, 0, 0, 0, 1, 1, 2, 2, 3, 3, 4, 4, 5, 5, 6, 6, 7, 7, 8, 8, 9, 9, 10, 10, 11, 11, 12, 12, 13, 13}
	backFrom = []int{1, 2, 3, 4, 5, 7, 9, 13, 17, 25, 33, 49, 65, 97, 129, 193, 257, 385, 513, 769, 1025, 1537, 2049, 3073, 4097, 6145, 8193, 12289, 16385, 24577}
)

func (w *walker) coded(block *walked, symbols, backs []int) {
	block.symbols, block.backs = symbols, backs
	of, from := bookOf(symbols), bookOf(backs)
	for {
		s := w.symbol(of)
		if s == 256 {
			return
		}
		if s < 256 {
			block.tolds = append(block.tolds, told{one: byte(s)})
			w.out = append(w.out, byte(s))
			continue
		}
		need(s <= 285, "a symbol above 285")
		long := longFrom[s-257] + w.num(longBits[s-257])
		need(s == 285 || long < 258, "258 bytes aren't told by symbol 285")
		d := w.symbol(from)
		need(d <= 29, "a distance above 29")
		back := backFrom[d] + w.num(backBits[d])
		need(back <= len(w.out), "a copy from ahead of all bytes")
		block.tolds = append(block.tolds, told{long: long, back: back})
		for range long {
			w.out = append(w.out, w.out[len(w.out)-back])
		}
	}
}

// book has the symbols of codes, each by its length and its number.
type book map[[2]int]int

// bookOf are the codes of these lengths, as RFC 1951, 3.2.2, counts them up.
func bookOf(l []int) book {
	b := book{}
	code := 0
	for n := 1; n < 16; n++ {
		code *= 2
		for s, long := range l {
			if long == n {
				b[[2]int{n, code}] = s
				code++
			}
		}
	}
	return b
}

func (w *walker) symbol(b book) int {
	code := 0
	for n := 1; n < 16; n++ {
		code = 2*code + w.bit()
		if s, is := b[[2]int{n, code}]; is {
			return s
		}
	}
	panic("a code that is nobody's")
}

// textsOf are the codes of these lengths, each as a text of 0 and 1.
func textsOf(l []int) map[int]string {
	texts := map[int]string{}
	for code, s := range bookOf(l) {
		texts[s] = fmt.Sprintf("%0*b", code[0], code[1])
	}
	return texts
}

// bytesOf are bits as bytes, zeros filling the last one.
func bytesOf(text string) []byte {
	b := make([]byte, (len(text)+7)/8)
	for i, c := range text {
		b[i/8] |= byte(c-'0') << (i % 8)
	}
	return b
}

// head are the first bytes of b: all of it would be too much to tell.
func head(b []byte) []byte { return b[:min(len(b), 40)] }

// anyOf are n bytes by chance, of these.
func anyOf(x *rand.Rand, n int, of string) []byte {
	b := make([]byte, n)
	for i := range b {
		b[i] = of[x.Intn(len(of))]
	}
	return b
}

// rising are the bytes from one to another one.
func rising(from, to int) []byte {
	var b []byte
	for i := from; i <= to; i++ {
		b = append(b, byte(i))
	}
	return b
}

// fading are n bytes by chance, each of which comes so much less often than the one ahead of it; which byte is which is by chance, too.
func fading(x *rand.Rand, n int, by float64) []byte {
	which := x.Perm(256)
	b := make([]byte, n)
	for i := range b {
		b[i] = byte(which[int(math.Log(1-x.Float64())/math.Log(by))%256])
	}
	return b
}

// steep are bytes in no order: the first ones come 1, 2, 4, 8, .. times, and each of the others more often than these in all.
func steep(x *rand.Rand) []byte {
	var b []byte
	for c := range 256 {
		many := 300
		if c < 8 {
			many = 1 << c
		}
		b = append(b, bytes.Repeat([]byte{byte(c)}, many)...)
	}
	x.Shuffle(len(b), func(i, j int) { b[i], b[j] = b[j], b[i] })
	return b
}
