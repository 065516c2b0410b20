package inflate

import (
	"math"
	"math/rand"
	"slices"
	"strings"
	"sync"
	"testing"

	"inquest/api"
)

var extremes = []int{math.MinInt, math.MinInt + 1, -1 << 32, -65536, -1, 0, 1, 2, 257, 258, 259, 32767, 32768, 32769, 65535, 65536, 65537,
	1<<24 - 1, 1 << 24, 1<<24 + 1, 1<<31 - 1, 1 << 31, 1<<32 - 1, 1 << 32, math.MaxInt - 1, math.MaxInt}

// toldUnpacker unpacks whole input as the chapter tells it, bit by bit; it leaves what it does by a panic of the error.
type toldUnpacker struct {
	b   []byte
	at  int
	out []byte
}

// told is what b unpacks to, as far as that goes, how many bytes of b that takes, if the last block ends, and the error.
func told(b []byte) ([]byte, int, api.Errno) {
	m := &toldUnpacker{b: b}
	e := m.all()
	if e != api.OK {
		return m.out, 0, e
	}
	return m.out, (m.at + 7) / 8, e
}

func (m *toldUnpacker) all() (e api.Errno) {
	defer func() {
		if x := recover(); x != nil {
			e = x.(api.Errno)
		}
	}()
	for !m.block() {
	}
	return api.OK
}

// need is whether what is needed holds.
func need(is bool, e api.Errno) {
	if !is {
		panic(e)
	}
}

func (m *toldUnpacker) num(n int) int {
	need(m.at+n <= 8*len(m.b), api.ErrEnd)
	v := 0
	for i := range n {
		if m.bit() == "1" {
			v += 1 << i
		}
	}
	return v
}

func (m *toldUnpacker) bit() string {
	need(m.at < 8*len(m.b), api.ErrEnd)
	x := m.b[m.at/8] >> (m.at % 8) % 2
	m.at++
	return string('0' + rune(x))
}

// block unpacks a block, and tells whether it is the last one.
func (m *toldUnpacker) block() bool {
	head := m.num(3)
	switch head / 2 {
	case 0:
		m.stored()
	case 1:
		m.coded(fixedBooks())
	case 2:
		m.told()
	case 3:
		panic(api.ErrData)
	}
	return head%2 == 1
}

func (m *toldUnpacker) stored() {
	for m.at%8 != 0 {
		m.bit()
	}
	need(m.at+32 <= 8*len(m.b), api.ErrEnd)
	n, turned := m.num(16), m.num(16)
	need(n+turned == 65535, api.ErrData)
	for range n {
		m.out = append(m.out, byte(m.num(8)))
	}
}

func (m *toldUnpacker) told() {
	need(m.at+14 <= 8*len(m.b), api.ErrEnd)
	many, distances, heads := m.num(5)+257, m.num(5)+1, m.num(4)+4
	need(many <= 286 && distances <= 30, api.ErrData)
	l := make([]int, 19)
	need(m.at+3*heads <= 8*len(m.b), api.ErrEnd)
	for _, s := range []int{16, 17, 18, 0, 8, 7, 9, 6, 10, 5, 11, 4, 12, 3, 13, 2, 14, 1, 15}[:heads] {
		l[s] = m.num(3)
	}
	needFits(l, false)
	all := m.lengths(bookOf(l), many+distances)
	need(all[256] != 0, api.ErrData)
	needFits(all[:many], false)
	needFits(all[many:], true)
	m.coded(bookOf(all[:many]), bookOf(all[many:]))
}

func (m *toldUnpacker) lengths(book *book, many int) []int {
	var all []int
	for len(all) < many {
		s, n := m.symbol(book), 1
		again := s
		switch s {
		case 16:
			need(len(all) > 0, api.ErrData)
			n, again = m.num(2)+3, all[max(0, len(all)-1)]
		case 17:
			n, again = m.num(3)+3, 0
		case 18:
			n, again = m.num(7)+11, 0
		}
		need(len(all)+n <= many, api.ErrData)
		all = append(all, slices.Repeat([]int{again}, n)...)
	}
	return all
}

// needFits needs lengths to be neither over nor short, but for one symbol's alone, and, if it may be so, none.
func needFits(l []int, none bool) {
	sum, many := 0, 0
	for _, n := range l {
		if n > 0 {
			sum += 1 << (15 - n)
			many++
		}
	}
	alone := many == 1 && slices.Max(l) == 1
	need(sum == 1<<15 || alone || none && many == 0, api.ErrData)
}

// The lists of RFC 1951, 3.2.5.
var (
	lengthBits    = []int{0, 0, 0, 0, 0, 0, 0, 0, 1, 1, 1, 1, 2, 2, 2, 2, 3, 3, 3, 3, 4, 4, 4, 4, 5, 5, 5, 5, 0}
	lengthFrom    = []int{3, 4, 5, 6, 7, 8, 9, 10, 11, 13, 15, 17, 19, 23, 27, 31, 35, 43, 51, 59, 67, 83, 99, 115, 131, 163, 195, 227, 258}
	distanceBits  = []int{0, 0, 0, 0, 1, 1, 2, 2, 3, 3, 4, 4, 5, 5, 6, 6, 7, 7, 8, 8, 9, 9, 10, 10, 11, 11, 12, 12, 13, 13}
	distancesFrom = []int{1, 2, 3, 4, 5, 7, 9, 13, 17, 25, 33, 49, 65, 97, 129, 193, 257, 385, 513, 769, 1025, 1537, 2049, 3073, 4097, 6145, 8193, 12289, 16385, 24577}
)

func (m *toldUnpacker) coded(symbols, distances *book) {
	for {
		s := m.symbol(symbols)
		if s == 256 {
			return
		}
		if s < 256 {
			m.out = append(m.out, byte(s))
			continue
		}
		need(s <= 285, api.ErrData)
		long := lengthFrom[s-257] + m.num(lengthBits[s-257])
		d := m.symbol(distances)
		need(d <= 29, api.ErrData)
		back := distancesFrom[d] + m.num(distanceBits[d])
		need(back <= len(m.out) && back <= 32768, api.ErrData)
		for range long {
			m.out = append(m.out, m.out[len(m.out)-back])
		}
	}
}

// book has the symbols of codes by their texts, texts by their symbols, and what codes begin with.
type book struct {
	symbols map[string]int
	texts   map[int]string
	begins  map[string]bool
}

// bookOf are the codes of these lengths, as RFC 1951, 3.2.2, counts them up.
func bookOf(l []int) *book {
	b := &book{map[string]int{}, map[int]string{}, map[string]bool{}}
	code := 0
	for n := 1; n < 16; n++ {
		code *= 2
		for s, long := range l {
			if long != n {
				continue
			}
			text := ""
			for i := n - 1; i >= 0; i-- {
				text += string('0' + rune(code>>i&1))
			}
			b.symbols[text], b.texts[s] = s, text
			for i := range n + 1 {
				b.begins[text[:i]] = true
			}
			code++
		}
	}
	return b
}

func (m *toldUnpacker) symbol(b *book) int {
	text := ""
	for {
		need(b.begins[text], api.ErrData)
		if s, is := b.symbols[text]; is {
			return s
		}
		text += m.bit()
	}
}

// fixedBooks are the codes of kind 1, of symbols and of distances.
var fixedBooks = sync.OnceValues(func() (*book, *book) {
	l := slices.Concat(slices.Repeat([]int{8}, 144), slices.Repeat([]int{9}, 112), slices.Repeat([]int{7}, 24), slices.Repeat([]int{8}, 8))
	return bookOf(l), bookOf(slices.Repeat([]int{5}, 32))
})

// packer packs by hand: its bits, as text, and what they unpack to.
type packer struct {
	text strings.Builder
	out  []byte
	// marks are how many bits there were, and how many bytes they unpack to, behind each part that has bytes.
	marks [][2]int
	// symbols and distances are the codes of the block.
	symbols, distances *book
}

// mark has what came so far whole.
func (p *packer) mark() { p.marks = append(p.marks, [2]int{p.text.Len(), len(p.out)}) }

// outOf is what the first n bits unpack to.
func (p *packer) outOf(n int) []byte {
	many := 0
	for _, m := range p.marks {
		if m[0] <= n {
			many = m[1]
		}
	}
	return p.out[:many]
}

// num has a number of n bits behind.
func (p *packer) num(n, v int) {
	for i := range n {
		p.text.WriteByte('0' + byte(v>>i&1))
	}
}

func (p *packer) align() {
	for p.text.Len()%8 != 0 {
		p.text.WriteByte('0')
	}
}

func (p *packer) bytes() []byte { return bytesOf(p.text.String()) }

// bytesOf are bits as bytes, zeros filling the last one.
func bytesOf(text string) []byte {
	b := make([]byte, (len(text)+7)/8)
	for i, c := range text {
		b[i/8] |= byte(c-'0') << (i % 8)
	}
	return b
}

func (p *packer) head(last bool, kind int) {
	v := 2 * kind
	if last {
		v++
	}
	p.num(3, v)
}

func (p *packer) stored(last bool, b []byte) {
	p.head(last, 0)
	p.align()
	p.num(16, len(b))
	p.num(16, 65535-len(b))
	for _, c := range b {
		p.num(8, int(c))
		p.out = append(p.out, c)
		p.mark()
	}
}

func (p *packer) fixed(last bool) {
	p.head(last, 1)
	p.symbols, p.distances = fixedBooks()
}

// headLengths are the lengths of a code of lengths in which all nineteen symbols have one.
func headLengths() []int {
	return slices.Concat(slices.Repeat([]int{4}, 13), slices.Repeat([]int{5}, 6))
}

// told begins a block whose codes have these lengths, told one by one.
func (p *packer) told(last bool, symbols, distances []int) {
	p.toldHead(last, len(symbols), len(distances), headLengths())
	b := bookOf(headLengths())
	for _, n := range slices.Concat(symbols, distances) {
		p.text.WriteString(b.texts[n])
	}
	p.symbols, p.distances = bookOf(symbols), bookOf(distances)
}

// toldHead begins a block of kind 2, up to the lengths of the code of lengths, all nineteen.
func (p *packer) toldHead(last bool, symbols, distances int, l []int) {
	p.head(last, 2)
	p.num(5, symbols-257)
	p.num(5, distances-1)
	p.num(4, 15)
	for _, s := range []int{16, 17, 18, 0, 8, 7, 9, 6, 10, 5, 11, 4, 12, 3, 13, 2, 14, 1, 15} {
		p.num(3, l[s])
	}
}

func (p *packer) lit(b ...byte) {
	for _, c := range b {
		p.text.WriteString(p.symbols.texts[int(c)])
		p.out = append(p.out, c)
		p.mark()
	}
}

// copy has a copy behind, told by the last symbol and distance that begin no later.
func (p *packer) copy(long, back int) {
	p.copyBits(long, back)
	for range long {
		p.out = append(p.out, p.out[len(p.out)-back])
	}
	p.mark()
}

func (p *packer) copyBits(long, back int) {
	s, d := len(lengthFrom)-1, len(distancesFrom)-1
	for lengthFrom[s] > long {
		s--
	}
	for distancesFrom[d] > back {
		d--
	}
	p.text.WriteString(p.symbols.texts[s+257])
	p.num(lengthBits[s], long-lengthFrom[s])
	p.text.WriteString(p.distances.texts[d])
	p.num(distanceBits[d], back-distancesFrom[d])
}

func (p *packer) end() { p.text.WriteString(p.symbols.texts[256]) }

// wholeLengths are lengths of codes that are whole, for all of these symbols, by chance, and none for the others of so many.
func wholeLengths(x *rand.Rand, many int, symbols []int) []int {
	l := make([]int, many)
	if len(symbols) == 1 {
		l[symbols[0]] = 1
		return l
	}
	leaves := []int{0}
	for len(leaves) < len(symbols) {
		i := x.Intn(len(leaves))
		if leaves[i] < 15 {
			leaves[i]++
			leaves = append(leaves, leaves[i])
		}
	}
	x.Shuffle(len(leaves), func(i, j int) { leaves[i], leaves[j] = leaves[j], leaves[i] })
	for i, s := range symbols {
		l[s] = leaves[i]
	}
	return l
}

// someOf are at least so many of 0 to many-1, the sure ones among them.
func someOf(x *rand.Rand, many, least int, sure ...int) []int {
	l := slices.Clone(sure)
	for _, s := range x.Perm(many) {
		if (len(l) < least || x.Intn(4) == 0) && !slices.Contains(l, s) {
			l = append(l, s)
		}
	}
	return l
}

// anyPack packs some blocks by chance.
func anyPack(x *rand.Rand) *packer {
	p := &packer{}
	for blocks := x.Intn(4); blocks >= 0; blocks-- {
		switch x.Intn(3) {
		case 0:
			p.stored(blocks == 0, anyBytes(x, x.Intn(40)))
			continue
		case 1:
			p.fixed(blocks == 0)
		case 2:
			symbols, distances := 257+x.Intn(30), 1+x.Intn(30)
			d := make([]int, distances)
			if x.Intn(4) > 0 {
				d = wholeLengths(x, distances, someOf(x, distances, 1))
			}
			p.told(blocks == 0, wholeLengths(x, symbols, someOf(x, symbols, 1, 256)), d)
		}
		for range x.Intn(30) {
			p.any(x)
		}
		p.end()
	}
	return p
}

// any has a byte, or a copy, of those that have codes behind.
func (p *packer) any(x *rand.Rand) {
	s, d := x.Intn(286), x.Intn(30)
	if p.symbols.texts[s] == "" || s == 256 {
		return
	}
	if s < 256 {
		p.lit(byte(s))
		return
	}
	long := lengthFrom[s-257] + x.Intn(1<<lengthBits[s-257])
	if p.distances.texts[d] == "" || distancesFrom[d] > len(p.out) || s == 284 && long == 258 {
		return
	}
	p.copy(long, min(len(p.out), distancesFrom[d]+x.Intn(1<<distanceBits[d])))
}

func anyBytes(x *rand.Rand, n int) []byte {
	b := make([]byte, n)
	x.Read(b)
	return b
}

// same tells whether bytes and an error are those that are wanted.
func same(t *testing.T, what string, out, want []byte, e, wanted api.Errno) {
	t.Helper()
	if !slices.Equal(out, want) || e != wanted {
		t.Errorf("%s: %d bytes %x, %v; wanted %d %x, %v", what, len(out), head(out), e, len(want), head(want), wanted)
	}
}

// head are the first bytes of b: all of it would be too much to tell.
func head(b []byte) []byte { return b[:min(len(b), 40)] }
