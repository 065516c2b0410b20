package page

import (
	"bytes"
	"encoding/binary"
	"encoding/hex"
	"hash/crc32"
	"math/rand"
	"testing"

	"inquest/api"
)

// rising are n bytes, each one more than the one ahead, from 0 on again behind 255.
func rising(n int) []byte {
	b := make([]byte, n)
	for i := range b {
		b[i] = byte(i)
	}
	return b
}

// drawn are n bytes in no order.
func drawn(x *rand.Rand, n int) []byte {
	b := make([]byte, n)
	x.Read(b)
	return b
}

// edges are the numbers that a page may have at the edges, and some between.
var edges = []int{0, 1, 2, 5, 127, 128, 255, 256, 257, 65535, 65536, 65537, 1<<23 - 1, 1 << 23, 1<<24 - 2, 1<<24 - 1}

// P15.1: the example: Seal(0) of nothing is 508 zeros, and their sum.
func TestExample(t *testing.T) {
	want := append(make([]byte, 508), 0x78, 0x75, 0xaa, 0xb2)
	for _, nothing := range [][]byte{nil, {}, rising(9)[:0]} {
		if p, e := Seal(0, nothing); e != api.OK || !bytes.Equal(p, want) {
			t.Errorf("%x, %v", p, e)
		}
	}
	opens(t, 0, want, make([]byte, 508))
}

// some are pages whose sums were worked out beside the program.
var some = []struct {
	no  int
	b   []byte
	sum string
}{
	{0, nil, "7875aab2"},
	{1, nil, "50aed8a2"},
	{1<<24 - 1, nil, "76c989dd"},
	{5, []byte("abc"), "61e956c7"},
	{0x123456, rising(508), "ed83438f"},
	{7, bytes.Repeat([]byte{255}, 508), "c0487281"},
	{0, []byte{1}, "d9312675"},
	{0, append(make([]byte, 507), 1), "ee45adc5"},
}

// P15.1: a page stands as its bytes, zeros, and the sum of its number and them, and is opened as its 508 bytes.
func TestKnown(t *testing.T) {
	for _, c := range some {
		sum, _ := hex.DecodeString(c.sum)
		want := make([]byte, 508, 512)
		copy(want, c.b)
		want = append(want, sum...)
		if p, e := Seal(c.no, c.b); e != api.OK || !bytes.Equal(p, want) {
			t.Errorf("Seal(%d, %d bytes): %x, %v, wanted %x", c.no, len(c.b), p, e, want)
		}
		opens(t, c.no, want, want[:508])
	}
}

// P15.1: a page has room for 508 bytes.
func TestRoom(t *testing.T) {
	if Room != 508 {
		t.Error(Room)
	}
}

// P15.1: bytes of every number from 0 to 508, under all numbers at the edges.
func TestAllLengths(t *testing.T) {
	x := rand.New(rand.NewSource(1))
	for n := range 509 {
		for _, no := range edges {
			asModel(t, no, drawn(x, n))
		}
		asModel(t, n, rising(n))
		asModel(t, n, make([]byte, n))
		asModel(t, n, bytes.Repeat([]byte{255}, n))
	}
}

// P15.1: each byte of any value, at any place.
func TestAllBytes(t *testing.T) {
	for at := range 508 {
		b := make([]byte, at+1)
		for _, v := range []byte{0, 1, 2, 127, 128, 254, 255, byte(at)} {
			b[at] = v
			asModel(t, 3, b)
		}
	}
	for v := range 256 {
		asModel(t, 1<<24-1, bytes.Repeat([]byte{byte(v)}, 508))
	}
}

// P15.1: drawn bytes under drawn numbers, the sum held against the library's.
func TestAgainstLibrary(t *testing.T) {
	x := rand.New(rand.NewSource(2))
	for range 5000 {
		no, b := x.Intn(1<<24), drawn(x, x.Intn(509))
		want := make([]byte, 508, 512)
		copy(want, b)
		number := binary.LittleEndian.AppendUint32(nil, uint32(no))
		want = binary.LittleEndian.AppendUint32(want, crc32.Update(crc32.ChecksumIEEE(number), crc32.IEEETable, want))
		if p := sealed(t, no, b); !bytes.Equal(p, want) {
			t.Fatalf("Seal(%d, %x): %x, wanted %x", no, b, p, want)
		}
		opens(t, no, want, want[:508])
	}
}

// P15.1: zeros at the end of what is sealed change nothing.
func TestZerosAtTheEnd(t *testing.T) {
	x := rand.New(rand.NewSource(3))
	for _, n := range []int{0, 1, 3, 4, 5, 100, 506, 507, 508} {
		b := drawn(x, n)
		for _, no := range edges {
			want := sealed(t, no, b)
			for long := n; long <= 508; long++ {
				filled := append(bytes.Clone(b), make([]byte, long-n)...)
				if p := sealed(t, no, filled); !bytes.Equal(p, want) {
					t.Fatalf("Seal(%d) of %d bytes and %d zeros: %x, wanted %x", no, n, long-n, p, want)
				}
			}
		}
	}
}

// P15.1: what is opened is the same when it is sealed again.
func TestSealedAgain(t *testing.T) {
	x := rand.New(rand.NewSource(4))
	for _, no := range edges {
		p := sealed(t, no, drawn(x, x.Intn(509)))
		b, e := Open(no, p)
		if again := sealed(t, no, b); e != api.OK || len(b) != 508 || !bytes.Equal(again, p) {
			t.Errorf("under %d: %x, %v, wanted %x", no, again, e, p)
		}
	}
}

// P15.1: the sum is of the number's four bytes and the 508 ones, not of fewer, nor in another order.
func TestOtherSums(t *testing.T) {
	b := rising(508)
	no := 0x123456
	for why, sum := range map[string]uint32{
		"of the bytes alone":                 summed(b),
		"of the number behind them":          summed(append(bytes.Clone(b), four(uint32(no))...)),
		"of the number, highest byte first":  summed(append([]byte{0, 0x12, 0x34, 0x56}, b...)),
		"of the number in three bytes":       summed(append([]byte{0x56, 0x34, 0x12}, b...)),
		"of the number alone":                summed(four(uint32(no))),
		"of the number, and zeros":           summed(append(four(uint32(no)), make([]byte, 508)...)),
		"of nothing":                         0,
		"of ones":                            0xffffffff,
		"turned over":                        ^summed(append(four(uint32(no)), b...)),
		"of the bytes that aren't zeros":     summed(append(four(uint32(no)), b[:507]...)),
		"with the sum's own place, as zeros": summed(append(append(four(uint32(no)), b...), 0, 0, 0, 0)),
	} {
		opensNot(t, why, no, append(bytes.Clone(b), four(sum)...), api.ErrSum)
	}
	p := stands(no, b)
	opens(t, no, p, b)
	opensNot(t, "the sum's highest byte first", no, append(bytes.Clone(b), p[511], p[510], p[509], p[508]), api.ErrSum)
	opensNot(t, "the sum ahead of the bytes", no, append(bytes.Clone(p[508:]), b...), api.ErrSum)
}
