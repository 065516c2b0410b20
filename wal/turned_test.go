package wal

import (
	"bytes"
	"encoding/binary"
	"hash/crc32"
	"math/bits"
	"math/rand"
	"testing"

	"inquest/api"
)

// batches are some of few pages.
func batches() [][]api.Write {
	return [][]api.Write{
		nil,
		{{No: 0, B: alike(0)}},
		{{No: 1<<24 - 1, B: alike(255)}},
		{{No: 0x123456, B: steps()}, {No: 0x123457, B: alike(0)}, {No: 0xabcdef, B: alike(255)}},
		under(3, 9),
		under(edges...),
	}
}

// turn turns these bits of four bytes.
func turn(b []byte, some uint32) {
	binary.LittleEndian.PutUint32(b, binary.LittleEndian.Uint32(b)^some)
}

// P16.2: each single bit turned behind the first eight bytes is told by the sum.
func TestSingleBits(t *testing.T) {
	for _, l := range batches() {
		b := puts(t, l...)
		for bit := 8 * 8; bit < 8*min(len(b), 2000); bit++ {
			b[bit/8] ^= 1 << (bit % 8)
			getsNot(t, "one bit turned", b, api.ErrSum)
			b[bit/8] ^= 1 << (bit % 8)
		}
		gets(t, "as it was", b, l...)
	}
}

// P16.1: each single bit turned among the first eight: another mark, too many pages, pages that are missing, or a sum that is another one, by the chapter's words.
func TestSingleBitsOfTheHead(t *testing.T) {
	for _, l := range batches() {
		b := puts(t, l...)
		for bit := range 8 * 8 {
			b[bit/8] ^= 1 << (bit % 8)
			_, want := read(b)
			if bit < 32 && want != api.ErrForm || want == api.OK {
				t.Fatalf("bit %d of %x: %v", bit, b[:8], want)
			}
			getsNot(t, "one bit of the head turned", b, want)
			b[bit/8] ^= 1 << (bit % 8)
		}
	}
}

// P16.2: any bits of four bytes next to one another turned, at every place behind the first eight: one byte's in all ways, two bits, some in a row, drawn ones.
func TestTurnedBits(t *testing.T) {
	x := rand.New(rand.NewSource(17))
	var ways []uint32
	for i := range 32 {
		for j := range 32 {
			ways = append(ways, 1<<i|1<<j, (1<<i-1)<<j|1<<31, (1<<i-1)<<j|1)
		}
	}
	for v := range uint32(256) {
		ways = append(ways, v<<8|v<<16|1, v*0x01010101|1, v|1<<31)
	}
	for _, l := range batches()[:5] {
		b := puts(t, l...)
		for at := 8; at <= len(b)-4; at++ {
			many := 8
			// Where a number begins or ends, or the sum, the bits are parts of two things.
			if from := (at - 8) % 516; from < 5 || from > 510 {
				many = 300
			}
			for k := range many {
				some := ways[x.Intn(len(ways))]
				if k%2 == 0 {
					some = x.Uint32() | 1
				}
				turn(b[at:], some)
				getsNot(t, "bits turned", b, api.ErrSum)
				turn(b[at:], some)
			}
		}
		gets(t, "as it was", b, l...)
	}
}

// P16.2: the same of many pages, at drawn places.
func TestTurnedBitsOfMany(t *testing.T) {
	x := rand.New(rand.NewSource(18))
	for _, many := range []int{16, 300, 4096} {
		l := row(many, 0, 1)
		b := puts(t, l...)
		for range 2000 / (1 + many/5) {
			at, some := 8+x.Intn(len(b)-11), x.Uint32()|1
			turn(b[at:], some)
			getsNot(t, "bits turned", b, api.ErrSum)
			turn(b[at:], some)
		}
		gets(t, "as it was", b, l...)
	}
}

// rank is how many of these can't be made by adding others of them without carry.
func rank(l []uint32) int {
	var tops [33]uint32
	many := 0
	for _, n := range l {
		for n != 0 && tops[bits.Len32(n)] != 0 {
			n ^= tops[bits.Len32(n)]
		}
		if n != 0 {
			tops[bits.Len32(n)] = n
			many++
		}
	}
	return many
}

// P16.2, of all bits that may be turned: what single bits change of the sum adds up without carry; as none of four bytes next to one another add up to nothing, each of these ways is told, as long as the sum is the one that stands.
func TestNoBitsAddUpToNothing(t *testing.T) {
	for _, l := range batches()[:5] {
		b := puts(t, l...)
		end := len(b) - 4
		sum := binary.LittleEndian.Uint32(b[end:])
		var apart []uint32
		for bit := range 8 * end {
			b[bit/8] ^= 1 << (bit % 8)
			apart = append(apart, sum^crc32.ChecksumIEEE(b[:end]))
			b[bit/8] ^= 1 << (bit % 8)
		}
		for i := range 32 {
			apart = append(apart, 1<<i)
		}
		for at := 8; at <= end; at++ {
			if n := rank(apart[8*at : 8*at+32]); n != 32 {
				t.Errorf("from byte %d on only %d bits count", at, n)
			}
		}
	}
}

// P16.1, P16.2: any batches with any parts changed, cut off or put behind, the sum made anew or not, are as the chapter's words tell.
func TestChanged(t *testing.T) {
	x := rand.New(rand.NewSource(19))
	seen := map[api.Errno]int{}
	for range 20000 {
		l := row(x.Intn(4), x.Intn(3), 1+x.Intn(2))
		for i := range l {
			switch x.Intn(12) {
			case 0:
				l[i].No = x.Intn(4)
			case 1:
				l[i].No = 1<<24 - 2 + x.Intn(4)
			case 2:
				l[i].No = 1<<(20+x.Intn(12)) + x.Intn(2)
			}
		}
		b := open(len(l), l)
		switch x.Intn(8) {
		case 0:
			b[x.Intn(4)] ^= 1 << x.Intn(8)
		case 1:
			b = open(x.Intn(5), l)
		case 2:
			b = open(4095+x.Intn(4), l)
		case 3:
			b = open(1<<x.Intn(32)+x.Intn(4), l)
		}
		b = closed(b)
		switch x.Intn(6) {
		case 0:
			b[x.Intn(len(b))] ^= 1 << x.Intn(8)
		case 1:
			b = b[:x.Intn(len(b))]
		case 2:
			b = b[:len(b)-x.Intn(min(len(b), 20))]
		case 3:
			b = append(b, drawn(x, x.Intn(600))...)
		}
		want, e := read(b)
		seen[e]++
		if e == api.OK {
			gets(t, "changed", b, want...)
		} else {
			getsNot(t, "changed", b, e)
		}
	}
	for _, e := range []api.Errno{api.OK, api.ErrEnd, api.ErrForm, api.ErrSum} {
		if seen[e] < 500 {
			t.Errorf("%v came %d times alone", e, seen[e])
		}
	}
}

// P16.2: what is got is put again as the same bytes.
func TestPutAgain(t *testing.T) {
	for _, l := range append(batches(), row(4096, 5, 3)) {
		want := stands(l)
		got, e := Get(want)
		if b := puts(t, got...); e != api.OK || !bytes.Equal(b, want) {
			t.Errorf("%d pages (%v): %x, %v", len(l), numbers(l), b[:8], e)
		}
	}
}
