package wal

import (
	"bytes"
	"encoding/binary"
	"encoding/hex"
	"hash/crc32"
	"math"
	"math/rand"
	"slices"
	"testing"

	"inquest/api"
)

// steps are 512 bytes, each one more than the one ahead, from 0 on again behind 255.
func steps() []byte {
	b := make([]byte, 512)
	for i := range b {
		b[i] = byte(i)
	}
	return b
}

// alike are 512 bytes of that value.
func alike(v byte) []byte { return bytes.Repeat([]byte{v}, 512) }

// drawn are n bytes in no order.
func drawn(x *rand.Rand, n int) []byte {
	b := make([]byte, n)
	x.Read(b)
	return b
}

// under are pages under these numbers, each of other bytes.
func under(numbers ...int) []api.Write {
	x := rand.New(rand.NewSource(int64(len(numbers))))
	var l []api.Write
	for _, no := range numbers {
		l = append(l, api.Write{No: no, B: drawn(x, 512)})
	}
	return l
}

// row are so many pages, from that number on, each so far from the one ahead.
func row(many, from, step int) []api.Write {
	var l []api.Write
	for i := range many {
		l = append(l, api.Write{No: from + i*step, B: alike(byte(i))})
	}
	return l
}

// edges are numbers that a page may have, at the edges and between, in their order.
var edges = []int{0, 1, 2, 5, 127, 128, 255, 256, 257, 65535, 65536, 65537, 1<<23 - 1, 1 << 23, 1<<24 - 2, 1<<24 - 1}

// P16.1: the example: a batch of nothing has 12 bytes.
func TestExample(t *testing.T) {
	want, _ := hex.DecodeString("69716a31000000006c02b7d5")
	for _, nothing := range [][]api.Write{nil, {}, under(1, 2)[:0]} {
		if b, e := Put(nothing...); e != api.OK || !bytes.Equal(b, want) {
			t.Errorf("%x, %v", b, e)
		}
	}
	if b, e := Put(); e != api.OK || !bytes.Equal(b, want) {
		t.Errorf("%x, %v", b, e)
	}
	if n := Size(0); n != 12 {
		t.Error(n)
	}
	gets(t, "nothing", want)
}

// P16.1: batches whose sums were worked out beside the program.
func TestKnown(t *testing.T) {
	far := row(4096, 0, 4096)
	zeros := row(4096, 0, 1)
	for i := range zeros {
		zeros[i].B = make([]byte, 512)
	}
	for _, c := range []struct {
		head string
		sum  string
		l    []api.Write
	}{
		{"69716a3100000000", "6c02b7d5", nil},
		{"69716a3101000000", "6035a74b", []api.Write{{No: 0, B: alike(0)}}},
		{"69716a3101000000", "68f8490b", []api.Write{{No: 1<<24 - 1, B: alike(255)}}},
		{"69716a3101000000", "bc77fb24", []api.Write{{No: 5, B: steps()}}},
		{"69716a3102000000", "d2834008", []api.Write{{No: 0, B: alike(0)}, {No: 1, B: alike(0)}}},
		{"69716a3102000000", "5f8b3d4d", []api.Write{{No: 0, B: alike(255)}, {No: 1<<24 - 1, B: alike(0)}}},
		{"69716a3103000000", "7418ab9f", []api.Write{{No: 0x123456, B: steps()}, {No: 0x123457, B: alike(0)}, {No: 0xabcdef, B: alike(255)}}},
		{"69716a310a000000", "9b77d34d", row(10, 0, 1)},
		{"69716a3100100000", "747dd957", far},
		{"69716a3100100000", "a5dff6f1", zeros},
	} {
		want, _ := hex.DecodeString(c.head)
		for _, w := range c.l {
			want = append(want, byte(w.No), byte(w.No>>8), byte(w.No>>16), 0)
			want = append(want, w.B...)
		}
		sum, _ := hex.DecodeString(c.sum)
		want = append(want, sum...)
		if b := puts(t, c.l...); !bytes.Equal(b, want) {
			t.Errorf("Put of %d pages (%v): it ends with %x, wanted %s", len(c.l), numbers(c.l), b[len(b)-4:], c.sum)
		}
		gets(t, "known", want, c.l...)
	}
}

// P16.1, P16.2: one page, under every number at the edges, and of each kind of bytes.
func TestOne(t *testing.T) {
	x := rand.New(rand.NewSource(1))
	for _, no := range edges {
		for _, b := range [][]byte{alike(0), alike(255), steps(), drawn(x, 512)} {
			asModel(t, api.Write{No: no, B: b})
		}
	}
	for i := range 24 {
		asModel(t, api.Write{No: 1 << i, B: drawn(x, 512)})
	}
}

// P16.1, P16.2: a byte of any value, at any place of a page.
func TestAllBytes(t *testing.T) {
	for at := range 512 {
		b := make([]byte, 512)
		for _, v := range []byte{1, 128, 255, byte(at)} {
			b[at] = v
			asModel(t, api.Write{No: 3, B: b})
		}
	}
	for v := range 256 {
		asModel(t, api.Write{No: 1<<24 - 1, B: alike(byte(v))})
	}
}

// P16.1, P16.2: a few pages: all pairs of numbers at the edges that rise, and all of the edges at once.
func TestAFew(t *testing.T) {
	for i, no := range edges {
		for _, other := range edges[i+1:] {
			asModel(t, under(no, other)...)
		}
	}
	for n := range edges {
		asModel(t, under(edges[n:]...)...)
		asModel(t, under(edges[:n]...)...)
	}
}

// P16.1, P16.2: pages that are the same but for their numbers, and pages that look like heads, sums, or whole batches.
func TestPagesThatAreAlike(t *testing.T) {
	b := steps()
	asModel(t, api.Write{No: 3, B: b}, api.Write{No: 9, B: b}, api.Write{No: 10, B: b})
	inner := append(stands(nil), make([]byte, 500)...)
	asModel(t, api.Write{No: 3, B: inner}, api.Write{No: 0x316a71, B: inner})
	asModel(t, api.Write{No: 0, B: stands(under(1))[:512]})
	asModel(t, api.Write{No: 0, B: stands(under(1))[16:]})
}

// P16.1, P16.2: batches of every number of pages up to 40, and of many.
func TestMany(t *testing.T) {
	for n := range 41 {
		asModel(t, row(n, 0, 1)...)
		asModel(t, row(n, 1<<24-n, 1)...)
		asModel(t, row(n, n, 1000)...)
	}
	for _, n := range []int{255, 256, 257, 1000, 4094, 4095, 4096} {
		asModel(t, row(n, 1<<24-n, 1)...)
	}
	asModel(t, row(4096, 0, 4096)...)
}

// P16.1, P16.2: drawn pages, the bytes made in another way, by the library's sum.
func TestAgainstLibrary(t *testing.T) {
	x := rand.New(rand.NewSource(2))
	for range 400 {
		at := map[int]bool{}
		for range x.Intn(20) {
			at[x.Intn(1<<(1+x.Intn(24)))] = true
		}
		var l []api.Write
		for no := range at {
			l = append(l, api.Write{No: no, B: drawn(x, 512)})
		}
		slices.SortFunc(l, func(v, w api.Write) int { return v.No - w.No })
		want := binary.LittleEndian.AppendUint32([]byte("iqj1"), uint32(len(l)))
		for _, w := range l {
			want = binary.LittleEndian.AppendUint32(want, uint32(w.No))
			want = append(want, w.B...)
		}
		want = binary.LittleEndian.AppendUint32(want, crc32.ChecksumIEEE(want))
		if b := puts(t, l...); !bytes.Equal(b, want) {
			t.Fatalf("Put of %d pages (%v): %x, wanted %x", len(l), numbers(l), b, want)
		}
		gets(t, "drawn", want, l...)
	}
}

// P16.1: whatever is behind a batch is left where it is, be it another batch.
func TestWhatIsBehind(t *testing.T) {
	x := rand.New(rand.NewSource(3))
	for _, l := range [][]api.Write{nil, under(0), under(1<<24 - 1), under(3, 9), under(edges...)} {
		b := stands(l)
		for n := range 40 {
			gets(t, "drawn bytes behind", append(bytes.Clone(b), drawn(x, n)...), l...)
			gets(t, "zeros behind", append(bytes.Clone(b), make([]byte, n)...), l...)
			gets(t, "a piece of it behind", append(bytes.Clone(b), b[:min(n, len(b))]...), l...)
		}
		for _, n := range []int{512, 516, 528, 4096, 1 << 20} {
			gets(t, "drawn bytes behind", append(bytes.Clone(b), drawn(x, n)...), l...)
			gets(t, "ones behind", append(bytes.Clone(b), bytes.Repeat([]byte{255}, n)...), l...)
		}
		for _, m := range [][]api.Write{nil, under(0), under(7, 8)} {
			both := append(bytes.Clone(b), puts(t, m...)...)
			gets(t, "a batch behind", both, l...)
			gets(t, "the batch behind", both[Size(len(l)):], m...)
		}
	}
}

// P16.1: Size is what a batch of so many pages has: 12 bytes, and 516 of each page.
func TestSize(t *testing.T) {
	for n := range 4097 {
		if got := Size(n); got != 12+516*n {
			t.Errorf("Size(%d): %d", n, got)
		}
	}
	for n, want := range map[int]int{0: 12, 1: 528, 2: 1044, 10: 5172, 4095: 2113032, 4096: 2113548} {
		if got := Size(n); got != want {
			t.Errorf("Size(%d): %d, wanted %d", n, got, want)
		}
	}
}

// P16.1: Size is 0 of what is below 0, or above 4096.
func TestNoSize(t *testing.T) {
	for _, n := range []int{-1, -2, -4096, -4097, -1 << 16, -1 << 31, -1<<32 + 1, -1 << 32, -1 << 62, math.MinInt, math.MinInt + 1, 4097, 4098, 8192, 1 << 16, 1<<16 + 1, 1<<24 - 1, 1<<31 - 1, 1 << 31, 1<<32 + 1, 1 << 60, 1 << 62, math.MaxInt} {
		if got := Size(n); got != 0 {
			t.Errorf("Size(%d): %d", n, got)
		}
	}
	for n := 1; n < 20000; n++ {
		if Size(-n) != 0 || Size(4096+n) != 0 {
			t.Errorf("Size of %d and %d: %d and %d", -n, 4096+n, Size(-n), Size(4096+n))
		}
	}
}
