package bits

import (
	"math"
	"math/rand"
	"testing"
)

var extremes = []int{math.MinInt, math.MinInt + 1, -1 << 32, -256, -25, -24, -8, -2, -1, 0, 1, 2, 3, 7, 8, 9, 15, 16, 17, 23, 24, 25, 26, 31, 32, 33,
	63, 64, 65, 255, 256, 1<<24 - 1, 1 << 24, 1<<31 - 1, 1 << 31, 1<<32 - 1, 1 << 32, math.MaxInt - 1, math.MaxInt}

// within is n as the chapter holds it, told anew here.
func within(n int) int {
	if n < 0 {
		return 0
	}
	if n > 24 {
		return 24
	}
	return n
}

// mixed are n bytes of no plain order, the same ones each time.
func mixed(n int, seed int64) []byte {
	b := make([]byte, n)
	rand.New(rand.NewSource(seed)).Read(b)
	return b
}

// listed are the bits of b as the chapter tells them: of each byte the lowest first.
func listed(b []byte) []int {
	var l []int
	for _, x := range b {
		for range 8 {
			l = append(l, int(x%2))
			x /= 2
		}
	}
	return l
}

// number is what the bits are, the first one the lowest.
func number(l []int) int {
	v, worth := 0, 1
	for _, x := range l {
		v += x * worth
		worth *= 2
	}
	return v
}

// toldReader is a reader as the chapter tells it, bit by bit.
type toldReader struct{ taken, left []int }

func (m *toldReader) add(b []byte) { m.left = append(m.left, listed(b)...) }

func (m *toldReader) peek(n int) (int, bool) {
	if within(n) > len(m.left) {
		return 0, false
	}
	return number(m.left[:within(n)]), true
}

func (m *toldReader) bits(n int) (int, bool) {
	v, is := m.peek(n)
	if is {
		m.take(within(n))
	}
	return v, is
}

func (m *toldReader) take(n int) {
	for range n {
		m.taken, m.left = append(m.taken, m.left[0]), m.left[1:]
	}
}

func (m *toldReader) align() int {
	n := 0
	for len(m.taken)%8 != 0 {
		m.take(1)
		n++
	}
	return n
}

func (m *toldReader) back(mark int) {
	for mark >= 0 && mark < len(m.taken) {
		last := len(m.taken) - 1
		m.left = append([]int{m.taken[last]}, m.left...)
		m.taken = m.taken[:last]
	}
}

// toldWriter has the bits that were written, one by one.
type toldWriter struct{ l []int }

func (m *toldWriter) bits(n, v int) {
	for i := 0; i < within(n); i++ {
		m.l = append(m.l, bitOf(v, i))
	}
}

func (m *toldWriter) code(n, v int) {
	for i := within(n) - 1; i >= 0; i-- {
		m.l = append(m.l, bitOf(v, i))
	}
}

func (m *toldWriter) align() {
	for len(m.l)%8 != 0 {
		m.l = append(m.l, 0)
	}
}

func (m *toldWriter) bytes() []byte {
	b := make([]byte, (len(m.l)+7)/8)
	for i, x := range m.l {
		b[i/8] += byte(x << (i % 8))
	}
	return b
}

// bitOf is the bit of v that is worth 2^i, found by dividing (below 0 a bit stands as it does in numbers that go round).
func bitOf(v, i int) int {
	for range i {
		v = (v - (v%2+2)%2) / 2
	}
	return (v%2 + 2) % 2
}

// sameReader tells of all that a reader answers without taking any whether it is as the model has it.
func sameReader(t *testing.T, what string, r *Reader, m *toldReader) {
	t.Helper()
	if r.Left() != len(m.left) || r.Mark() != len(m.taken) {
		t.Fatalf("%s: %d taken, %d left, wanted %d and %d", what, r.Mark(), r.Left(), len(m.taken), len(m.left))
	}
	for _, n := range []int{-1, 0, 1, 5, 8, 24, 25, len(m.left) - 1, len(m.left), len(m.left) + 1} {
		if r.Has(n) != (n <= len(m.left)) {
			t.Fatalf("%s: Has(%d) isn't right with %d left", what, n, len(m.left))
		}
		v, is := r.Peek(n)
		if w, so := m.peek(n); v != w || is != so {
			t.Fatalf("%s: Peek(%d): %d %v, wanted %d %v", what, n, v, is, w, so)
		}
	}
}
