package page

import (
	"encoding/binary"
	"math/bits"
	"math/rand"
	"testing"

	"inquest/api"
)

// pages are bytes of some kinds, each with a number.
func pages() map[int][]byte {
	x := rand.New(rand.NewSource(15))
	ones := make([]byte, 508)
	for i := range ones {
		ones[i] = 255
	}
	return map[int][]byte{0: nil, 1: ones, 1<<24 - 1: make([]byte, 508), 5: []byte("abc"), 0x123456: rising(508), 0xa5a5a5: drawn(x, 508), 77: drawn(x, 300)}
}

// P15.2: what is sealed isn't opened under a number that differs in one bit, or two.
func TestNumbersByBits(t *testing.T) {
	for no, b := range pages() {
		p := sealed(t, no, b)
		for i := range 24 {
			for j := range 24 {
				other := no ^ (1<<i | 1<<j)
				opensNot(t, "another number", other, p, api.ErrSum)
			}
		}
		opens(t, no, p, p[:508])
	}
}

// P15.2: nor under one that is near, nor under the edges, nor under drawn ones.
func TestOtherNumbers(t *testing.T) {
	x := rand.New(rand.NewSource(16))
	for no, b := range pages() {
		p := sealed(t, no, b)
		others := append([]int{}, edges...)
		for near := range 1000 {
			others = append(others, no-near, no+near, x.Intn(1<<24), x.Intn(1<<24))
		}
		for _, other := range others {
			if other != no && other >= 0 && other < 1<<24 {
				opensNot(t, "another number", other, p, api.ErrSum)
			}
		}
	}
}

// P15.2: the same bytes stand in another way under each number.
func TestSumsOfNumbers(t *testing.T) {
	for _, b := range pages() {
		seen := map[string]int{}
		for no := 0; no < 1<<24; no += 997 {
			sum := string(sealed(t, no, b)[508:])
			if other, is := seen[sum]; is {
				t.Fatalf("%x under %d and %d", sum, no, other)
			}
			seen[sum] = no
		}
	}
}

// P15.2: each single bit turned is told.
func TestSingleBits(t *testing.T) {
	for no, b := range pages() {
		p := sealed(t, no, b)
		for bit := range 512 * 8 {
			p[bit/8] ^= 1 << (bit % 8)
			opensNot(t, "one bit turned", no, p, api.ErrSum)
			p[bit/8] ^= 1 << (bit % 8)
		}
		opens(t, no, p, p[:508])
	}
}

// turn turns these bits of four bytes.
func turn(b []byte, some uint32) {
	binary.LittleEndian.PutUint32(b, binary.LittleEndian.Uint32(b)^some)
}

// P15.2: any bits of four bytes next to one another turned, at every place: one byte's bits in all ways, two bits, all of some bits in a row, drawn ones.
func TestTurnedBits(t *testing.T) {
	x := rand.New(rand.NewSource(17))
	var ways []uint32
	for i := range 32 {
		for j := range 32 {
			ways = append(ways, 1<<i|1<<j, (1<<i-1)<<j|1<<31, (1<<i-1)<<j|1)
		}
	}
	for v := range uint32(256) {
		ways = append(ways, v<<8|v<<16, v*0x01010101|1, v|1<<31)
	}
	no, b := 0x123456, drawn(x, 508)
	p := sealed(t, no, b)
	for at := range 509 {
		for k := range 1000 {
			some := x.Uint32() | 1
			if k%2 == 0 {
				some = ways[x.Intn(len(ways))]
			}
			if some == 0 {
				continue
			}
			turn(p[at:], some)
			opensNot(t, "bits turned", no, p, api.ErrSum)
			turn(p[at:], some)
		}
	}
	// Where the bytes end and the sum begins.
	for at := 504; at < 509; at++ {
		for _, some := range ways {
			if some != 0 {
				turn(p[at:], some)
				opensNot(t, "bits turned", no, p, api.ErrSum)
				turn(p[at:], some)
			}
		}
	}
	opens(t, no, p, p[:508])
}

// sumOf is the sum that a page is sealed with.
func sumOf(t *testing.T, no int, b []byte) uint32 {
	t.Helper()
	return binary.LittleEndian.Uint32(sealed(t, no, b)[508:])
}

// apart are how the sum that stands and the sum that the page has come to differ, by each single bit that is turned: of the number (24), of the bytes, of the sum itself.
func apart(t *testing.T, no int, b []byte) (number, page []uint32) {
	t.Helper()
	sum := sumOf(t, no, b)
	for i := range 24 {
		number = append(number, sum^sumOf(t, no^1<<i, b))
	}
	for bit := range 508 * 8 {
		b[bit/8] ^= 1 << (bit % 8)
		page = append(page, sum^sumOf(t, no, b))
		b[bit/8] ^= 1 << (bit % 8)
	}
	for i := range 32 {
		page = append(page, 1<<i)
	}
	return number, page
}

// rank is how many of these can't be made by adding others of them without carry.
func rank(l []uint32) int {
	var tops [33]uint32
	many := 0
	for _, n := range l {
		for n != 0 && tops[bits.Len32(n)] != 0 {
			n ^= tops[bits.Len32(n)]
		}
		if n != 0 {
			tops[bits.Len32(n)] = n
			many++
		}
	}
	return many
}

// P15.2, of all numbers and of all bits that may be turned: what single bits change adds up without carry; as no bits of the number, and none of four bytes next to one another, add up to nothing, each of these ways is told.
func TestNoBitsAddUpToNothing(t *testing.T) {
	for no, b := range pages() {
		b = append([]byte{}, sealed(t, no, b)[:508]...)
		number, page := apart(t, no, b)
		if n := rank(number); n != 24 {
			t.Errorf("numbers: only %d bits count", n)
		}
		for at := range 509 {
			if n := rank(page[8*at : 8*at+32]); n != 32 {
				t.Errorf("from byte %d on only %d bits count", at, n)
			}
		}
	}
}

// P15.2: that what single bits change adds up: a page with many bits turned is opened just if all of them add up to nothing.
func TestBitsAddUp(t *testing.T) {
	x := rand.New(rand.NewSource(18))
	no, b := 0x654321, drawn(x, 508)
	number, page := apart(t, no, b)
	whole := sealed(t, no, b)
	for range 3000 {
		p, other, sum := append([]byte{}, whole...), no, uint32(0)
		for range x.Intn(200) {
			bit := x.Intn(508 * 8)
			p[bit/8] ^= 1 << (bit % 8)
			sum ^= page[bit]
		}
		for range x.Intn(3) {
			i := x.Intn(24)
			other ^= 1 << i
			sum ^= number[i]
		}
		turn(p[508:], sum)
		opens(t, other, p, p[:508])
		turn(p[508:], 1<<x.Intn(32))
		opensNot(t, "and one bit more", other, p, api.ErrSum)
	}
}
