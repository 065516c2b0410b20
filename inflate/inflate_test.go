package inflate

import (
	"encoding/hex"
	"fmt"
	"math"
	"math/rand"
	"slices"
	"strings"
	"testing"

	"inquest/api"
)

// hexed are the bytes that a text tells.
func hexed(t *testing.T, text string) []byte {
	t.Helper()
	b, err := hex.DecodeString(strings.ReplaceAll(text, " ", ""))
	if err != nil {
		t.Fatal(err)
	}
	return b
}

// put is an unpacker that was handed these.
func put(l ...[]byte) *Reader {
	r := New()
	for _, b := range l {
		r.Put(b)
	}
	return r
}

// got tells whether a Get brings what is wanted.
func got(t *testing.T, what string, r *Reader, n int, want []byte, wanted api.Errno) {
	t.Helper()
	out, e := r.Get(n)
	same(t, fmt.Sprintf("%s: Get(%d)", what, n), out, want, e, wanted)
}

// stands tells whether an unpacker is done, or isn't, with so many bytes behind.
func stands(t *testing.T, what string, r *Reader, done bool, rest int) {
	t.Helper()
	for range 2 {
		if r.Done() != done || r.Rest() != rest {
			t.Errorf("%s: Done %v, Rest %d, wanted %v, %d", what, r.Done(), r.Rest(), done, rest)
		}
	}
}

// unpacks tells whether a Reader, and All, unpack b to what is wanted.
func unpacks(t *testing.T, what string, b, want []byte, taken int, wanted api.Errno) {
	t.Helper()
	r := put(b)
	for at := 65536; at <= len(want); at += 65536 {
		got(t, what, r, 65536, want[at-65536:at], api.OK)
	}
	got(t, what, r, 65536, want[len(want)/65536*65536:], wanted)
	out, n, e := All(b, math.MaxInt)
	if wanted != api.OK {
		stands(t, what, r, false, 0)
		want, taken = nil, 0
	} else {
		stands(t, what, r, true, len(b)-taken)
	}
	same(t, what+": All", out, want, e, wanted)
	if n != taken {
		t.Errorf("%s: All took %d bytes, wanted %d", what, n, taken)
	}
}

// packed tells whether what was packed by hand unpacks, with other bytes behind, and none.
func packed(t *testing.T, what string, p *packer) {
	t.Helper()
	b := p.bytes()
	for _, behind := range []string{"", "\x00", "\xff\xff\xff", "behind"} {
		unpacks(t, what, append(slices.Clone(b), behind...), p.out, len(b), api.OK)
	}
}

// P6.1, P6.2: packed data that are known, of each kind.
func TestKnown(t *testing.T) {
	for _, c := range []struct {
		b, want string
		taken   int
	}{
		{"01 0100 feff 61", "a", 6},
		{"01 0000 ffff", "", 5},
		{"01 0000 ffff 07 07", "", 5},
		{"f9 0100 feff 61", "a", 6},
		{"00 0100 feff 61 01 0200 fdff 6263", "abc", 13},
		{"00 0000 ffff 00 0000 ffff 03 00", "", 12},
		{"03 00", "", 2},
		{"03 00 00", "", 2},
		{"cb48cdc9c90700", "hello", 7},
		{"cb48cdc9c907000102", "hello", 7},
		{"4b4c840100", "aaaaaaaaaa", 5},
		{"4b4c4a4e842100", "abcabcabcabc", 7},
		{"4b4c1c05c40200", strings.Repeat("a", 300), 7},
		{"05c1010100000082a0ad6aff37042d1118194a1c", "cdcbabaaadacbcabbaca", 20},
		{"05c1010100000082a0ad6aff37042d1118194a1cff", "cdcbabaaadacbcabbaca", 20},
		{"4b4c2a4a4c4e4c4904520a20021bbb3833b738312731293317a71264ad74530e00", strings.Repeat(strings.Repeat("abracadabra ", 3)+"simsalabim ", 4), 33},
		{"05c1c10d00300803b155b2da053e48e513f6976ae350340ec2a1681c8443d138e8668f87678543d1380887a271100e45e3a09b3d1e9e150e45e3201c8ac64138148d836ef678785638148d8370281a07e150340ebad9e3e1597d",
			strings.Repeat(strings.Repeat("abracadabra ", 3)+"simsalabim ", 4), 90},
	} {
		unpacks(t, c.b, hexed(t, c.b), []byte(c.want), c.taken, api.OK)
	}
}

// shifted is a packer in which a block stands ahead, of so many bytes of nine bits each: with 0 to 7 of them the next block begins at each bit of a byte.
func shifted(n int) *packer {
	p := &packer{}
	p.fixed(false)
	for i := range n {
		p.lit(byte(200 + i))
	}
	p.end()
	return p
}

// P6.1: stored blocks begin with the next byte, wherever the head ends, whatever is skipped; they have from 0 to 65535 bytes.
func TestStored(t *testing.T) {
	for _, n := range []int{0, 1, 2, 255, 256, 32768, 65535} {
		for shift := range 8 {
			for _, skipped := range []string{"0", "1"} {
				p := shifted(shift)
				p.head(true, 0)
				for p.text.Len()%8 != 0 {
					p.text.WriteString(skipped)
				}
				q := &packer{}
				q.stored(true, anyBytes(rand.New(rand.NewSource(1)), n))
				p.text.WriteString(q.text.String()[8:])
				p.out = append(p.out, q.out...)
				packed(t, fmt.Sprintf("%d bytes behind %d", n, shift), p)
			}
		}
	}
}

// anyCodes begins a block of kind 2 in which all symbols, and all distances, have codes.
func (p *packer) anyCodes(last bool, seed int64) {
	x := rand.New(rand.NewSource(seed))
	p.told(last, wholeLengths(x, 286, x.Perm(286)), wholeLengths(x, 30, x.Perm(30)))
}

// P6.1: blocks of all kinds stand one behind the other, and copies reach over what is between them.
func TestBlocks(t *testing.T) {
	for n := range 81 {
		p := &packer{}
		kinds := []int{n % 3, n / 3 % 3, n / 9 % 3, n / 27 % 3}
		for i, kind := range kinds {
			last := i == len(kinds)-1
			switch kind {
			case 0:
				p.stored(last, []byte("stored"))
				continue
			case 1:
				p.fixed(last)
			case 2:
				p.anyCodes(last, int64(n))
			}
			p.lit([]byte("in codes")...)
			p.copy(3+n, len(p.out))
			p.copy(3+n, 1)
			p.end()
		}
		packed(t, fmt.Sprint("blocks of kinds ", kinds), p)
	}
}

// P6.1: a symbol's length, and its distance, are each of those that the lists of RFC 1951, 3.2.5, have, with the least and the most of their own bits.
func TestCopies(t *testing.T) {
	before := anyBytes(rand.New(rand.NewSource(2)), 32768)
	for _, begin := range []func(p *packer){func(p *packer) { p.fixed(true) }, func(p *packer) { p.anyCodes(true, 3) }} {
		lengths, distances := &packer{}, &packer{}
		lengths.stored(false, before)
		distances.stored(false, before)
		begin(lengths)
		begin(distances)
		for long := 3; long <= 258; long++ {
			lengths.copy(long, 1+long%7)
		}
		for d, from := range distancesFrom {
			for _, back := range []int{from, from + 1<<distanceBits[d] - 1} {
				distances.copy(3+back%250, back)
			}
		}
		lengths.end()
		distances.end()
		packed(t, "lengths", lengths)
		packed(t, "distances", distances)
	}
}

// P6.1: 284 with all of its own bits is as long as 285.
func TestLongestOf284(t *testing.T) {
	p := &packer{}
	p.fixed(true)
	p.lit('a', 'b')
	p.text.WriteString(p.symbols.texts[284] + "11111" + p.distances.texts[1])
	p.out = []byte(strings.Repeat("ab", 130))
	p.end()
	packed(t, "284", p)
}

// P6.1: copies reach to the very first byte, and as far back as Window; those that reach into what they make go round.
func TestCopiesOverlap(t *testing.T) {
	for _, many := range []int{1, 2, 3, 4, 5, 100, 257, 258, 259, 32767, 32768} {
		for _, long := range []int{3, 4, 257, 258} {
			p := &packer{}
			p.stored(false, anyBytes(rand.New(rand.NewSource(int64(many))), many))
			p.fixed(true)
			p.copy(long, many)
			p.copy(long, max(1, many-1))
			p.copy(long, min(32768, many+2*long))
			p.end()
			packed(t, fmt.Sprintf("%d from %d back", long, many), p)
		}
	}
}

// long is packed data of more than so many bytes, that come back from as far as Window over and over.
func long(many int) *packer {
	x := rand.New(rand.NewSource(4))
	p := &packer{}
	p.stored(false, anyBytes(x, 40000))
	p.fixed(false)
	for i := range many / 400 {
		p.copy(258, 32768-i%3)
		p.copy(100+i%100, 1+x.Intn(32768))
		p.lit(byte(i))
	}
	p.end()
	p.stored(false, anyBytes(x, 1000))
	p.anyCodes(true, 5)
	for range 100 {
		p.copy(258, 32768)
	}
	p.end()
	return p
}

// P6.1: copies bring the same bytes wherever in the output they stand, far beyond Window.
func TestLongOutput(t *testing.T) {
	packed(t, "long", long(300000))
}

// P6.1: at most so many bytes come, held within 0 to 65536, and as many, if there are so many.
func TestGetHoldsMost(t *testing.T) {
	p := long(200000)
	b := p.bytes()
	for _, n := range append([]int{3, 1000, 40000, 65534}, extremes...) {
		r, at := put(b), 0
		for range 5 {
			if n < 3 && at > 2 {
				break
			}
			want := p.out[at:min(len(p.out), at+max(0, min(n, 65536)))]
			got(t, "long", r, n, want, api.OK)
			at += len(want)
			stands(t, "long", r, at == len(p.out), 0)
		}
	}
}

// P6.1: Get of 0 tells OK and no bytes, whatever there is ahead: nothing, the end, or what isn't right, as long as that wasn't told.
func TestGetOfNothing(t *testing.T) {
	for _, c := range []string{"", "01", "01 0100 feff 61", "01 0100 feff", "03 00", "07", "01 0100 feee"} {
		for _, n := range []int{0, -1, math.MinInt} {
			r := put(hexed(t, c))
			got(t, c, r, n, nil, api.OK)
			stands(t, c, r, c == "03 00", 0)
			got(t, c, r, n, nil, api.OK)
		}
	}
}

// P6.1: fewer bytes than were asked for are OK, if the last block has ended, and so are none behind that.
func TestGetAtTheEnd(t *testing.T) {
	p := &packer{}
	p.stored(false, []byte("abc"))
	p.fixed(true)
	p.lit('d')
	p.copy(5, 4)
	p.end()
	for n := 1; n < 12; n++ {
		r := put(p.bytes(), []byte("xy"))
		for at := 0; at < len(p.out)+3*n; at += n {
			stands(t, "ahead of the end", r, at >= len(p.out), map[bool]int{true: 2}[at >= len(p.out)])
			got(t, "to the end", r, n, p.out[min(at, len(p.out)):min(at+n, len(p.out))], api.OK)
		}
		got(t, "behind the end", r, 0, nil, api.OK)
		got(t, "behind the end", r, 70000, nil, api.OK)
	}
}

// P6.1: ErrEnd comes with all that there were, as often as is asked; a Get of no more than there were is OK; with more input it goes on.
func TestGetBehindErrEnd(t *testing.T) {
	r := New()
	got(t, "no input", r, 1, nil, api.ErrEnd)
	b := hexed(t, "00 0300 fcff 616263 01 0200 fdff 6465 99")
	r.Put(b[:7])
	got(t, "two bytes", r, 2, []byte("ab"), api.OK)
	for range 3 {
		got(t, "two bytes", r, 0, nil, api.OK)
		got(t, "two bytes", r, 1, nil, api.ErrEnd)
		stands(t, "two bytes", r, false, 0)
	}
	r.Put(nil)
	got(t, "no more", r, 5, nil, api.ErrEnd)
	r.Put(b[7:14])
	got(t, "two more", r, 3, []byte("cd"), api.ErrEnd)
	r.Put(b[14:])
	stands(t, "one more", r, false, 0)
	got(t, "one more", r, 3, []byte("e"), api.OK)
	stands(t, "the end", r, true, 1)
}

// P6.1: ErrData comes with all that there were, once what isn't right is next, and from then on always, whatever is asked, or put.
func TestGetBehindErrData(t *testing.T) {
	b := hexed(t, "00 0300 fcff 616263 07")
	for _, n := range []int{4, 5, 65536, math.MaxInt} {
		r := put(b)
		got(t, "all", r, n, []byte("abc"), api.ErrData)
		for _, more := range []int{0, 1, -1, 65536, math.MaxInt, math.MinInt} {
			got(t, "behind it", r, more, nil, api.ErrData)
			stands(t, "behind it", r, false, 0)
			r.Put([]byte{1, 0, 0, 255, 255})
		}
	}
	r := put(b)
	got(t, "ahead of it", r, 3, []byte("abc"), api.OK)
	stands(t, "just ahead of it", r, false, 0)
	got(t, "just ahead of it", r, 0, nil, api.OK)
	r.Put([]byte{1, 0, 0, 255, 255})
	got(t, "just ahead of it", r, 0, nil, api.OK)
	got(t, "it", r, 1, nil, api.ErrData)
	got(t, "behind it", r, 0, nil, api.ErrData)
}

// P6.1: Done tells of the last block's end just when the input has it whole, and all bytes were handed out: the end may come behind them, and behind the last Get.
func TestDone(t *testing.T) {
	b := hexed(t, "cb48cdc9c90700")
	r := New()
	stands(t, "new", r, false, 0)
	r.Put(b)
	stands(t, "nothing handed out", r, false, 0)
	got(t, "hello", r, 4, []byte("hell"), api.OK)
	stands(t, "all but one handed out", r, false, 0)
	got(t, "hello", r, 1, []byte("o"), api.OK)
	stands(t, "all handed out", r, true, 0)

	r = put(b[:6])
	got(t, "hello", r, 5, []byte("hello"), api.OK)
	stands(t, "its end lacks", r, false, 0)
	r.Put(b[6:])
	stands(t, "its end is put", r, true, 0)

	r = put([]byte{3})
	stands(t, "within the end", r, false, 0)
	r.Put([]byte{0})
	stands(t, "nothing to hand out", r, true, 0)

	r = put(hexed(t, "01 0100 feff"))
	stands(t, "ahead of what is stored", r, false, 0)
	r.Put([]byte("a"))
	stands(t, "what is stored isn't handed out", r, false, 0)
	got(t, "what is stored", r, 1, []byte("a"), api.OK)
	stands(t, "what is stored is handed out", r, true, 0)
}

// P6.1: Rest counts whole bytes behind the end, whenever they were put, and whatever the byte has in which the end is.
func TestRest(t *testing.T) {
	for shift := range 8 {
		p := shifted(shift)
		p.fixed(true)
		p.end()
		b := bytesOf(p.text.String() + strings.Repeat("1", -p.text.Len()&7))
		for many := range 4 {
			r := put(b, make([]byte, many))
			stands(t, "ahead of Get", r, shift == 0, map[bool]int{true: many}[shift == 0])
			got(t, "all", r, 100, p.out, api.OK)
			stands(t, "behind Get", r, true, many)
			r.Put([]byte("more"))
			r.Put(nil)
			r.Put([]byte{1})
			stands(t, "with more", r, true, many+5)
			got(t, "with more", r, 100, nil, api.OK)
		}
	}
	big := put(hexed(t, "03 00"), make([]byte, 1<<20))
	stands(t, "much behind", big, true, 1<<20)
}

// P6.1: Held is never more than Window and what the last Get could hand out, and never less than copies may reach back to while more may come.
func TestHeld(t *testing.T) {
	p := long(200000)
	b := p.bytes()
	for _, n := range []int{1, 2, 255, 1000, 32767, 32768, 32769, 65536, math.MaxInt} {
		r, at := New(), 0
		if r.Held() != 0 {
			t.Errorf("new: %d bytes are held", r.Held())
		}
		for from := 0; from < len(b); from += 777 {
			r.Put(b[from:min(from+777, len(b))])
			for e := api.OK; e == api.OK && !r.Done(); {
				var out []byte
				out, e = r.Get(n)
				at += len(out)
				if h := r.Held(); h > 32768+min(n, 65536) || !r.Done() && h < min(at, 32768) {
					t.Fatalf("Get(%d): %d bytes are held, at %d", n, h, at)
				}
			}
			if r.Get(0); r.Held() > 32768 {
				t.Fatalf("Get(0) behind Get(%d): %d bytes are held", n, r.Held())
			}
		}
		if at != len(p.out) || !r.Done() {
			t.Errorf("Get(%d): %d bytes, wanted %d", n, at, len(p.out))
		}
	}
}

// P6.2: All takes just as many bytes as come; with room for one less it tells ErrLong, and for more nothing changes.
func TestAllAtMost(t *testing.T) {
	for _, p := range []*packer{shiftedTo(0), shiftedTo(1), shiftedTo(7), long(0), long(70000)} {
		b := append(p.bytes(), 1, 2, 3)
		n := len(p.out)
		for _, most := range append([]int{n - 300, n - 2, n - 1, n, n + 1, n + 300, 0}, extremes...) {
			out, taken, e := All(b, most)
			if max(0, min(most, 1<<24)) < n {
				same(t, fmt.Sprintf("All of %d at most %d", n, most), out, nil, e, api.ErrLong)
				if taken != 0 {
					t.Errorf("ErrLong, but it took %d", taken)
				}
				continue
			}
			same(t, fmt.Sprintf("All of %d at most %d", n, most), out, p.out, e, api.OK)
			if taken != len(b)-3 {
				t.Errorf("All of %d at most %d took %d, wanted %d", n, most, taken, len(b)-3)
			}
		}
	}
}

// shiftedTo is shifted, with an end.
func shiftedTo(n int) *packer {
	p := shifted(n)
	p.stored(true, nil)
	return p
}

// P6.2: more than so many bytes are ErrLong, whatever stands, or lacks, behind them; just so many, or fewer, are what behind them is.
func TestAllAheadOfErrors(t *testing.T) {
	p := &packer{}
	p.fixed(true)
	p.lit([]byte("abcd")...)
	p.copy(100, 4)
	ended := p.text.String()
	for _, c := range []struct {
		text string
		e    api.Errno
	}{
		{ended, api.ErrEnd},
		{ended + "11000110", api.ErrData},
		{ended + p.symbols.texts[257] + "11111", api.ErrData},
		{ended + "0000000" + "1", api.OK},
	} {
		for most := range 110 {
			want, wanted := []byte(nil), api.ErrLong
			if most >= 104 {
				wanted = c.e
			}
			if wanted == api.OK {
				want = p.out
			}
			out, taken, e := All(bytesOf(c.text), most)
			same(t, fmt.Sprintf("%s at most %d", c.text[len(ended):], most), out, want, e, wanted)
			if e != api.OK && taken != 0 {
				t.Errorf("%v, but it took %d", e, taken)
			}
		}
	}
}

// P6.2: All holds most within 2^24: as many bytes come, one more doesn't.
func TestAllOfTheMost(t *testing.T) {
	for more := range 2 {
		p := &packer{}
		p.fixed(true)
		p.lit('z')
		p.text.WriteString(strings.Repeat(p.symbols.texts[285]+p.distances.texts[0], (1<<24-1)/258))
		for range (1<<24-1)%258 + more {
			p.text.WriteString(p.symbols.texts['z'])
		}
		p.end()
		for _, most := range []int{1 << 24, 1<<24 + 1, math.MaxInt} {
			out, taken, e := All(p.bytes(), most)
			if more == 1 {
				same(t, "one more", out, nil, e, api.ErrLong)
			} else if len(out) != 1<<24 || taken != len(p.bytes()) || e != api.OK {
				t.Errorf("at most %d: %d bytes, it took %d, %v", most, len(out), taken, e)
			}
		}
	}
}
