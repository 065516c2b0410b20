package crc

import (
	"bytes"
	"hash/crc32"
	"strings"
	"testing"
)

// told is the sum as the chapter tells it, bit by bit in a list, the lowest first.
func told(b []byte) uint32 {
	n := make([]bool, 32)
	for i := range n {
		n[i] = true
	}
	for _, x := range b {
		turn(n[:8], uint32(x))
		for range 8 {
			goes := n[0]
			n = append(n[1:], false)
			if goes {
				turn(n, 0xedb88320)
			}
		}
	}
	turn(n, 0xffffffff)
	sum := uint32(0)
	for i, one := range n {
		if one {
			sum += 1 << i
		}
	}
	return sum
}

// turn turns over those of the bits that are 1 in x.
func turn(n []bool, x uint32) {
	for i := range n {
		if x>>i&1 == 1 {
			n[i] = !n[i]
		}
	}
}

// mixed are n bytes of no plain order, the same ones each time.
func mixed(n int, seed uint32) []byte {
	b := make([]byte, n)
	for i := range b {
		seed = seed*1664525 + 1013904223
		b[i] = byte(seed >> 24)
	}
	return b
}

// added is the sum of these, added one behind the other.
func added(l ...[]byte) *Sum {
	s := New()
	for _, b := range l {
		s.Add(b)
	}
	return s
}

// P2.1: sums that are known.
func TestKnownSums(t *testing.T) {
	for _, c := range []struct {
		text string
		want uint32
	}{
		{"", 0},
		{"\x00", 0xd202ef8d},
		{"\xff", 0xff000000},
		{"\x00\x00\x00\x00", 0x2144df1c},
		{"\xff\xff\xff\xff", 0xffffffff},
		{"a", 0xe8b7be43},
		{"abc", 0x352441c2},
		{"123456789", 0xcbf43926},
		{"The quick brown fox jumps over the lazy dog", 0x414fa339},
	} {
		if got := Of([]byte(c.text)); got != c.want {
			t.Errorf("Of %q: %08x, wanted %08x", c.text, got, c.want)
		}
		if got := added([]byte(c.text)).Sum(); got != c.want {
			t.Errorf("Sum of %q: %08x, wanted %08x", c.text, got, c.want)
		}
	}
}

// P2.1: the sum is just as the chapter's words tell it, of each byte, behind each byte, and of texts of many lengths.
func TestSumAsTold(t *testing.T) {
	var texts [][]byte
	for x := range 256 {
		texts = append(texts, []byte{byte(x)}, []byte{0x5a, byte(x)}, []byte{byte(x), 0xa5})
	}
	for n := range 200 {
		texts = append(texts, mixed(n, uint32(n)), make([]byte, n), bytes.Repeat([]byte{0xff}, n))
	}
	texts = append(texts, mixed(70000, 7))
	for _, b := range texts {
		want := told(b)
		if other := crc32.ChecksumIEEE(b); other != want {
			t.Fatalf("the test's own sum of %d bytes: %08x, wanted %08x", len(b), want, other)
		}
		if got := Of(b); got != want {
			t.Errorf("Of %d bytes: %08x, wanted %08x", len(b), got, want)
		}
		if got := added(b).Sum(); got != want {
			t.Errorf("Sum of %d bytes: %08x, wanted %08x", len(b), got, want)
		}
	}
}

// P2.1: pieces are as if they were one, wherever they are cut.
func TestPiecesAreOne(t *testing.T) {
	b := mixed(20, 3)
	want := told(b)
	for i := range len(b) + 1 {
		for j := i; j <= len(b); j++ {
			pieces := [][]byte{b[:i], b[i:j], nil, b[j:], {}}
			if got := Of(pieces...); got != want {
				t.Errorf("Of, cut at %d and %d: %08x, wanted %08x", i, j, got, want)
			}
			if s := added(pieces...); s.Sum() != want || s.Len() != len(b) {
				t.Errorf("Sum, cut at %d and %d: %08x of %d, wanted %08x", i, j, s.Sum(), s.Len(), want)
			}
		}
	}
	if Of([]byte("ab"), []byte("c")) == Of([]byte("c"), []byte("ab")) {
		t.Error("the pieces' order isn't kept")
	}
}

// P2.1: a new sum is of nothing.
func TestNewIsOfNothing(t *testing.T) {
	s := New()
	if s == nil {
		t.Fatal("nil")
	}
	if s.Sum() != 0 || s.Len() != 0 {
		t.Errorf("%08x of %d", s.Sum(), s.Len())
	}
	if Of() != 0 {
		t.Errorf("Of nothing: %08x", Of())
	}
}

// P2.1: Sum and Len tell what came so far, and more may come.
func TestSumSoFar(t *testing.T) {
	b := mixed(300, 11)
	s, at := New(), 0
	for n := 0; at+n <= len(b); n++ {
		s.Add(b[at : at+n])
		at += n
		for range 2 {
			if want := told(b[:at]); s.Sum() != want || s.Len() != at {
				t.Errorf("behind %d bytes: %08x of %d, wanted %08x", at, s.Sum(), s.Len(), want)
			}
		}
	}
}

// P2.1: Len counts bytes, whatever they are, and those of all pieces.
func TestLen(t *testing.T) {
	for _, c := range []struct {
		pieces []string
		want   int
	}{
		{nil, 0},
		{[]string{""}, 0},
		{[]string{"a"}, 1},
		{[]string{"\x00\x00\x00"}, 3},
		{[]string{"ab", "", "cde"}, 5},
		{[]string{strings.Repeat("x", 65536), "x"}, 65537},
	} {
		s := New()
		for _, p := range c.pieces {
			s.Add([]byte(p))
		}
		if s.Len() != c.want {
			t.Errorf("%d pieces: %d, wanted %d", len(c.pieces), s.Len(), c.want)
		}
	}
}

// unlike is b with these 32 bits turned over from its bit at on, as many as there are.
func unlike(b []byte, at int, bits uint32) []byte {
	b = bytes.Clone(b)
	for i := at; i < min(at+32, 8*len(b)); i++ {
		b[i/8] ^= byte(bits>>(i-at)&1) << (i % 8)
	}
	return b
}

// P2.2: texts that are unlike within 32 bits alone have sums that are unlike: by one bit or two, by all within a stretch, by bits of no plain order.
func TestUnlikeTextsHaveUnlikeSums(t *testing.T) {
	var patterns []uint32
	for i := range 32 {
		patterns = append(patterns, 0xffffffff>>i)
		for j := range i + 1 {
			patterns = append(patterns, 1<<i|1<<j)
		}
	}
	seed := uint32(1)
	for range 500 {
		seed = seed*1664525 + 1013904223
		patterns = append(patterns, seed|1, seed|1|1<<31)
	}
	for _, n := range []int{1, 2, 3, 4, 5, 8, 13} {
		b := mixed(n, uint32(n))
		sum := Of(b)
		for at := range 8 * n {
			for _, p := range patterns {
				other := unlike(b, at, p)
				if Of(other) == sum && !bytes.Equal(other, b) {
					t.Errorf("%d bytes, unlike from bit %d on by %08x: %08x twice", n, at, p, sum)
				}
			}
		}
	}
}

// rank is how many of the numbers can't be made by adding others of them without carry.
func rank(numbers []uint32) int {
	var tops [32]uint32
	many := 0
	for _, n := range numbers {
		for i := 31; i >= 0 && n != 0; i-- {
			if n>>i&1 == 0 {
				continue
			}
			if tops[i] == 0 {
				tops[i], n, many = n, 0, many+1
			} else {
				n ^= tops[i]
			}
		}
	}
	return many
}

// P2.2, of all texts that are unlike within 32 bits: sums turn by what each bit alone turns, added without carry (looked at for many); as no bits within 32 add up to 0, no such texts have one sum.
func TestNoBitsWithin32AddUpToNothing(t *testing.T) {
	for _, n := range []int{1, 2, 3, 4, 5, 9, 40} {
		b := mixed(n, uint32(100+n))
		sum := Of(b)
		for at := range 8 * n {
			wide := min(32, 8*n-at)
			turns := make([]uint32, wide)
			for i := range turns {
				turns[i] = Of(unlike(b, at, 1<<i)) ^ sum
			}
			if got := rank(turns); got != wide {
				t.Errorf("%d bytes, from bit %d on: some of %d bits add up to nothing", n, at, wide)
			}
			for _, p := range []uint32{3, 0x80000001, 0xffffffff, 0xedb88320, 0x12345679} {
				want := sum
				for i := range turns {
					want ^= turns[i] * (p >> i & 1)
				}
				if got := Of(unlike(b, at, p)); got != want {
					t.Errorf("%d bytes, from bit %d on by %08x: %08x, wanted %08x", n, at, p, got, want)
				}
			}
		}
	}
}
