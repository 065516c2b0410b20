package deflate

import (
	"bytes"
	"compress/flate"
	"fmt"
	"io"
	"math/rand"
	"slices"
	"testing"

	"inquest/api"
	"inquest/inflate"
)

const aText = "to be, or not to be, that is the question: whether 'tis nobler in the mind to suffer the slings and arrows of outrageous fortune, or to take arms against a sea of troubles, and by opposing end them. to die, to sleep, no more"

// samples are bytes of many kinds, by what they are.
func samples() map[string][]byte {
	x := rand.New(rand.NewSource(1))
	all := string(rising(0, 255))
	l := map[string][]byte{
		"none":                 nil,
		"a byte":               []byte("a"),
		"the lowest byte":      {0},
		"the highest byte":     {255},
		"two bytes":            []byte("ab"),
		"two alike":            []byte("aa"),
		"three alike":          []byte("aaa"),
		"four alike":           []byte("aaaa"),
		"three, twice":         []byte("abcabc"),
		"three bytes again":    []byte("abcdefabc"),
		"all unlike":           rising(0, 255),
		"all unlike, twice":    slices.Concat(rising(0, 255), rising(0, 255)),
		"a text":               []byte(aText),
		"a text, twice":        []byte(aText + aText),
		"low bytes":            anyOf(x, 3000, all[:144]),
		"high bytes":           anyOf(x, 3000, all[144:]),
		"any bytes":            anyOf(x, 70000, all),
		"two kinds":            anyOf(x, 3000, "ab"),
		"four kinds":           anyOf(x, 70000, "abcd"),
		"sixteen kinds":        anyOf(x, 40000, all[100:116]),
		"one alone":            bytes.Repeat([]byte("a"), 100000),
		"one, and another":     append(bytes.Repeat([]byte("a"), 50000), 'b'),
		"fading":               fading(x, 100000, 0.5),
		"one back, and two":    slices.Concat(bytes.Repeat([]byte("a"), 1+20*258), []byte("b"), bytes.Repeat([]byte("ab"), 10*129)),
		"a long way, and back": slices.Concat(anyOf(x, 40000, all), bytes.Repeat([]byte("abc"), 9)),
	}
	for n := 250; n < 265; n++ {
		l[fmt.Sprintf("%d alike", n)] = bytes.Repeat([]byte("a"), n)
	}
	for seed := range int64(150) {
		x := rand.New(rand.NewSource(seed))
		l[fmt.Sprintf("few, seed %d", seed)] = anyOf(x, x.Intn(60), all[:x.Intn(256)+1])
		l[fmt.Sprintf("fading, seed %d", seed)] = fading(x, x.Intn(3000), 0.5+x.Float64()/2)
	}
	return l
}

// unpacks tells whether p is unpacked to b, and all of it is needed, by layer 6, and by what others made.
func unpacks(t *testing.T, what string, p, b []byte) {
	t.Helper()
	out, n, e := inflate.All(p, len(b))
	if e != api.OK || n != len(p) || !bytes.Equal(out, b) {
		t.Errorf("%s: %x: %x, %d bytes of %d, %v", what, head(p), head(out), n, len(p), e)
	}
	_, n, e = inflate.All(append(slices.Clone(p), 0, 255), len(b))
	if e != api.OK || n != len(p) {
		t.Errorf("%s: %x and two bytes: %d bytes of %d, %v", what, head(p), n, len(p), e)
	}
	other, err := io.ReadAll(flate.NewReader(bytes.NewReader(p)))
	if err != nil || !bytes.Equal(other, b) {
		t.Errorf("%s: %x: others unpack it to %x, %v", what, head(p), head(other), err)
	}
	for n := range p {
		if n > 20 && n < len(p)-2 {
			continue
		}
		if _, _, e := inflate.All(p[:n], len(b)); e != api.ErrEnd {
			t.Errorf("%s: %x: the first %d of %d bytes: %v, wanted ErrEnd", what, head(p), n, len(p), e)
		}
	}
}

// packed is b packed so, which has to be told without an error.
func packed(t *testing.T, b []byte, how int) []byte {
	t.Helper()
	p, e := Pack(b, how)
	if e != api.OK {
		t.Fatalf("%x, %d: %v", head(b), how, e)
	}
	return p
}

// P7.2: what is packed, in each of the ways, is unpacked to what it was, and all of it is needed.
func TestUnpacked(t *testing.T) {
	for what, b := range samples() {
		for how := range 3 {
			what := fmt.Sprintf("%s, way %d", what, how)
			p := packed(t, b, how)
			unpacks(t, what, p, b)
			if _, out := walk(t, what, p); !bytes.Equal(out, b) {
				t.Errorf("%s: %x", what, head(out))
			}
		}
	}
}

// P7.1: Fixed is one block of kind 1, Dynamic one of kind 2; their copies have three bytes at least, and 258 at most, from within the window.
func TestOneBlock(t *testing.T) {
	for what, b := range samples() {
		for _, how := range []int{Fixed, Dynamic} {
			blocks, _ := walk(t, what, packed(t, b, how))
			if len(blocks) != 1 || blocks[0].kind != how || !blocks[0].last {
				t.Fatalf("%s, way %d: %d blocks, the first one of kind %d", what, how, len(blocks), blocks[0].kind)
			}
			for _, x := range blocks[0].tolds {
				if x.back != 0 && (x.long < 3 || x.long > 258 || x.back < 1 || x.back > 32768) {
					t.Errorf("%s, way %d: a copy of %d from %d back", what, how, x.long, x.back)
				}
			}
		}
	}
}

// P7.1: the chapter's example, and others that are known.
func TestKnown(t *testing.T) {
	for _, c := range []struct {
		b, p string
		how  int
	}{
		{"a", "\x01\x01\x00\xfe\xff\x61", Stored},
		{"", "\x01\x00\x00\xff\xff", Stored},
		{"abc", "\x01\x03\x00\xfc\xff\x61\x62\x63", Stored},
		{"", "\x03\x00", Fixed},
		{"a", "\x4b\x04\x00", Fixed},
		{"\xff", "\xfb\x0f\x00", Fixed},
	} {
		if p := packed(t, []byte(c.b), c.how); string(p) != c.p {
			t.Errorf("%q, way %d: %x, wanted %x", c.b, c.how, p, c.p)
		}
	}
}

// P7.1: in Stored each block but the last one has 65535 bytes, the last one those that are left; P7.2: that is 5 bytes more for each.
func TestStoredBlocks(t *testing.T) {
	x := rand.New(rand.NewSource(2))
	any := anyOf(x, 3*65535+2, string(rising(0, 255)))
	for _, c := range []struct {
		n    int
		want []int
	}{
		{0, []int{0}},
		{1, []int{1}},
		{2, []int{2}},
		{255, []int{255}},
		{256, []int{256}},
		{65534, []int{65534}},
		{65535, []int{65535}},
		{65536, []int{65535, 1}},
		{65537, []int{65535, 2}},
		{131069, []int{65535, 65534}},
		{131070, []int{65535, 65535}},
		{131071, []int{65535, 65535, 1}},
		{196605, []int{65535, 65535, 65535}},
		{196607, []int{65535, 65535, 65535, 2}},
	} {
		what := fmt.Sprintf("%d bytes", c.n)
		p := packed(t, any[:c.n], Stored)
		unpacks(t, what, p, any[:c.n])
		blocks, _ := walk(t, what, p)
		var got []int
		for i, block := range blocks {
			got = append(got, len(block.bytes))
			if block.kind != 0 || block.last != (i == len(blocks)-1) {
				t.Errorf("%s: block %d is of kind %d, the last one: %v", what, i, block.kind, block.last)
			}
		}
		if !slices.Equal(got, c.want) || len(p) != c.n+5*len(c.want) {
			t.Errorf("%s: blocks of %v, %d bytes; wanted %v", what, got, len(p), c.want)
		}
	}
}

// P7.1: bytes of which no three come twice are written one by one: in Fixed by codes that are known.
func TestFixedBytes(t *testing.T) {
	texts := textsOf(fixedLengths())
	for _, b := range [][]byte{rising(0, 255), rising(0, 143), rising(144, 255), rising(140, 150), []byte("ababbaa"), []byte("aabb"), {143, 144}} {
		text := "110"
		for _, c := range b {
			text += texts[int(c)]
		}
		want := bytesOf(text + texts[256])
		if p := packed(t, b, Fixed); !bytes.Equal(p, want) {
			t.Errorf("%x: %x, wanted %x", head(b), head(p), head(want))
		}
	}
}

// P7.2: the codes of Dynamic are its bytes' own: bytes that come more often than others have no longer codes, so fading ones make fewer bytes than in Fixed.
func TestDynamicCodes(t *testing.T) {
	for seed := range int64(30) {
		b := fading(rand.New(rand.NewSource(seed)), 20000, 0.5)
		what := fmt.Sprintf("seed %d", seed)
		p := packed(t, b, Dynamic)
		if f := packed(t, b, Fixed); len(p) >= len(f) {
			t.Errorf("%s: %d bytes, %d in Fixed", what, len(p), len(f))
		}
		blocks, _ := walk(t, what, p)
		many := make([]int, len(blocks[0].symbols))
		for _, x := range blocks[0].tolds {
			if x.back == 0 {
				many[x.one]++
			}
		}
		for s, n := range many[:256] {
			for o, m := range many[:256] {
				if n > m && m > 0 && blocks[0].symbols[s] > blocks[0].symbols[o] {
					t.Errorf("%s: %d comes %d times, %d %d times: %d bits and %d", what, s, n, o, m, blocks[0].symbols[s], blocks[0].symbols[o])
				}
			}
			if (n > 0) != (blocks[0].symbols[s] > 0) {
				t.Errorf("%s: %d comes %d times, its code has %d bits", what, s, n, blocks[0].symbols[s])
			}
		}
	}
}

// P7.1: without copies, and without bytes, a block of kind 2 stands, too, and its codes are whole.
func TestDynamicOfFew(t *testing.T) {
	for _, b := range []string{"", "a", "\x00", "\xff", "ab", "abc", "aaa"} {
		p := packed(t, []byte(b), Dynamic)
		blocks, _ := walk(t, b, p)
		if many := len(blocks[0].backs); many != 1 || blocks[0].backs[0] != 0 {
			t.Errorf("%q: lengths of distances %v", b, blocks[0].backs)
		}
		if many := len(blocks[0].symbols); many != 257 {
			t.Errorf("%q: %d symbols", b, many)
		}
		unpacks(t, b, p, []byte(b))
	}
}

// P7.1: lengths are told by repeats, of each kind, from the fewest that a repeat may tell to the most, and one more.
func TestLengthsAreTold(t *testing.T) {
	for _, from := range []int{0, 7} {
		for gap := range 250 {
			// Two bytes that stand apart have as many zeros between their lengths.
			if from+gap+1 > 255 {
				break
			}
			b := []byte{byte(from), byte(from + gap + 1)}
			unpacks(t, fmt.Sprintf("%x", b), packed(t, b, Dynamic), b)
		}
	}
	for many := 1; many <= 256; many++ {
		for _, from := range []int{0, 256 - many} {
			b := rising(from, from+many-1)
			unpacks(t, fmt.Sprintf("%d bytes from %d on", many, from), packed(t, b, Dynamic), b)
		}
	}
}

// fewest is by how many symbols these lengths are told, if as many alike as may be are told by each.
func fewest(l []int) int {
	parts := 0
	for len(l) > 0 {
		same := 1
		for same < len(l) && l[same] == l[0] {
			same++
		}
		left, most := same, 138
		if l[0] > 0 {
			left, most = same-1, 6
			parts++
		}
		parts += left / most
		if left %= most; left < 3 {
			parts += left
		} else {
			parts++
		}
		l = l[same:]
	}
	return parts
}

// P7.1: the head of Dynamic isn't longer than it needs to be: no lengths of 0 behind the last other one, and repeats that tell as many as they may.
func TestShortHeads(t *testing.T) {
	all := samples()
	for gap := range 255 {
		all[fmt.Sprintf("apart by %d", gap)] = []byte{0, byte(gap + 1)}
	}
	for many := range 256 {
		all[fmt.Sprintf("%d unlike", many)] = rising(0, many)
	}
	for what, b := range all {
		blocks, _ := walk(t, what, packed(t, b, Dynamic))
		block := blocks[0]
		if want := fewest(slices.Concat(block.symbols, block.backs)); block.parts != want {
			t.Errorf("%s: lengths are told by %d symbols, wanted %d", what, block.parts, want)
		}
		last := []int{16, 17, 18, 0, 8, 7, 9, 6, 10, 5, 11, 4, 12, 3, 13, 2, 14, 1, 15}[block.heads-1]
		if block.heads > 4 && block.lengths[last] == 0 {
			t.Errorf("%s: %d lengths of lengths, %v", what, block.heads, block.lengths)
		}
		if many := len(block.symbols); many > 257 && block.symbols[many-1] == 0 {
			t.Errorf("%s: %d symbols", what, many)
		}
		if many := len(block.backs); many > 1 && block.backs[many-1] == 0 {
			t.Errorf("%s: %d distances", what, many)
		}
	}
}

// P7.1: codes are no longer than may be, though fewer bits would be written by longer ones: fifteen bits, and seven, of lengths.
func TestLongCodes(t *testing.T) {
	seven := 0
	for seed := range int64(40) {
		x := rand.New(rand.NewSource(seed))
		b, what := fading(x, 10000, 0.97), fmt.Sprintf("fading, seed %d", seed)
		p := packed(t, b, Dynamic)
		unpacks(t, what, p, b)
		blocks, _ := walk(t, what, p)
		if slices.Max(blocks[0].lengths) == 7 {
			seven++
		}
	}
	if seven < 10 {
		t.Errorf("%d have lengths of seven bits", seven)
	}
	b := steep(rand.New(rand.NewSource(1)))
	p := packed(t, b, Dynamic)
	unpacks(t, "steep", p, b)
	blocks, _ := walk(t, "steep", p)
	if n := slices.Max(blocks[0].symbols); n != 15 {
		t.Errorf("the longest code has %d bits", n)
	}
}

// marked are bytes that come again so far back: as many of them as long, and between them others, of which no three come there.
func marked(x *rand.Rand, long, back int) []byte {
	mark := anyOf(x, long, string(rising(128, 255)))
	b := slices.Clone(mark)
	for len(b) < back {
		b = append(b, byte(x.Intn(128)))
	}
	b = b[:back]
	for range long {
		b = append(b, b[len(b)-back])
	}
	return b
}

// P7.2: copies of each length, from three bytes on to as many as may be, are unpacked to what they were; so are longer ones, in pieces.
func TestCopiesOfAllLengths(t *testing.T) {
	for long := 3; long < 600; long++ {
		b := marked(rand.New(rand.NewSource(int64(long))), long, 700)
		for _, how := range []int{Fixed, Dynamic} {
			what := fmt.Sprintf("%d bytes again, way %d", long, how)
			p := packed(t, b, how)
			unpacks(t, what, p, b)
			blocks, _ := walk(t, what, p)
			last := blocks[0].tolds[len(blocks[0].tolds)-1]
			if long <= 258 && last != (told{long: long, back: 700}) {
				t.Errorf("%s: the last is %v", what, last)
			}
		}
	}
}

// P7.2: copies come from as far back as 32768, and no farther.
func TestCopiesFromFarBack(t *testing.T) {
	t.Parallel()
	var backs []int
	for i, from := range backFrom {
		backs = append(backs, from, from+1, from+1<<backBits[i]-2, from+1<<backBits[i]-1)
	}
	for _, long := range []int{3, 20, 258} {
		for _, back := range append(backs, 32700, 32766, 32767, 32768, 32769, 32770, 33000, 65535, 65536, 65537) {
			b := marked(rand.New(rand.NewSource(int64(back))), long, max(back, long))
			for _, how := range []int{Fixed, Dynamic} {
				what := fmt.Sprintf("%d bytes from %d back, way %d", long, back, how)
				p := packed(t, b, how)
				unpacks(t, what, p, b)
				blocks, _ := walk(t, what, p)
				last := blocks[0].tolds[len(blocks[0].tolds)-1]
				if is := last == (told{long: long, back: max(back, long)}); is != (max(back, long) <= 32768) {
					t.Errorf("%s: the last is %v", what, last)
				}
			}
		}
	}
}

// P7.2: copies may overlap what they make: bytes that come again and again are copied from just one time ahead.
func TestCopiesOverlap(t *testing.T) {
	for period := 1; period < 60; period++ {
		b := bytes.Repeat(rising(1, period), 10)
		for _, how := range []int{Fixed, Dynamic} {
			what := fmt.Sprintf("%d bytes ten times, way %d", period, how)
			p := packed(t, b, how)
			unpacks(t, what, p, b)
			blocks, _ := walk(t, what, p)
			if x := blocks[0].tolds[period]; x != (told{long: min(9*period, 258), back: period}) {
				t.Errorf("%s: %v", what, x)
			}
		}
	}
}

// P7.1: of bytes that came more than once the last ones are copied, also such as a copy brought.
func TestTheLastAreCopied(t *testing.T) {
	for _, c := range []struct {
		b    string
		want []told
	}{
		{"abcXabcYabcZ", []told{{one: 'a'}, {one: 'b'}, {one: 'c'}, {one: 'X'}, {long: 3, back: 4}, {one: 'Y'}, {long: 3, back: 4}, {one: 'Z'}}},
		{"abcd1bcd2abcd", []told{{one: 'a'}, {one: 'b'}, {one: 'c'}, {one: 'd'}, {one: '1'}, {long: 3, back: 4}, {one: '2'}, {long: 4, back: 9}}},
		{"abcab", []told{{one: 'a'}, {one: 'b'}, {one: 'c'}, {one: 'a'}, {one: 'b'}}},
		{"aaaaa", []told{{one: 'a'}, {long: 4, back: 1}}},
	} {
		for _, how := range []int{Fixed, Dynamic} {
			blocks, _ := walk(t, c.b, packed(t, []byte(c.b), how))
			if !slices.Equal(blocks[0].tolds, c.want) {
				t.Errorf("%s, way %d: %v, wanted %v", c.b, how, blocks[0].tolds, c.want)
			}
		}
	}
}
