package deflate

import (
	"bytes"
	"fmt"
	"math/rand"
	"testing"

	"inquest/api"
	"inquest/inflate"
)

// P7.2: Fixed never makes more than nine bits for a byte, and ten more.
func TestFixedIsBounded(t *testing.T) {
	all := samples()
	x := rand.New(rand.NewSource(3))
	for n := range 300 {
		all[fmt.Sprintf("%d high bytes", n)] = anyOf(x, n, string(rising(144, 255)))
		all[fmt.Sprintf("%d high bytes, unlike", n)] = rising(max(0, 256-n), 255)
	}
	// Copies of three bytes each, all from as far back as may be, between bytes that have the longest codes.
	far := anyOf(x, 32768, string(rising(144, 255)))
	for i := 0; i+4 <= 32000; i += 4 {
		far = append(far, far[i], far[i+1], far[i+2], far[i+3]^1)
	}
	all["far copies"] = far
	for what, b := range all {
		if p := packed(t, b, Fixed); len(p) > (9*len(b)+10+7)/8 {
			t.Errorf("%s: %d bytes of %d", what, len(p), len(b))
		}
	}
	for _, b := range [][]byte{rising(144, 255), rising(200, 207), nil} {
		if p := packed(t, b, Fixed); len(p) != (9*len(b)+10+7)/8 {
			t.Errorf("%d unlike high bytes: %d bytes", len(b), len(p))
		}
	}
}

// P7.2: a byte that comes a hundred times or more makes fewer bytes, in Fixed and Dynamic, than a tenth of them, and twenty more.
func TestOneByteAgainAndAgain(t *testing.T) {
	many := []int{1000, 1023, 4096, 32767, 32768, 32769, 33027, 65535, 65536, 70000, 1 << 20}
	for n := 100; n < 800; n++ {
		many = append(many, n)
	}
	for _, c := range []byte{0, 'a', 143, 144, 255} {
		for _, n := range many {
			b := bytes.Repeat([]byte{c}, n)
			for _, how := range []int{Fixed, Dynamic} {
				p := packed(t, b, how)
				if len(p) >= n/10+20 {
					t.Errorf("%d times %d, way %d: %d bytes", n, c, how, len(p))
				}
				unpacks(t, fmt.Sprintf("%d times %d, way %d", n, c, how), p, b)
			}
		}
	}
}

// chain are bytes that stand so many times one behind the other.
type chain struct {
	what string
	b    []byte
	many int
}

// repeated are bytes of each length from four to fifty, of many kinds, forty times and more.
func repeated() []chain {
	var l []chain
	x := rand.New(rand.NewSource(4))
	for n := 4; n <= 50; n++ {
		kinds := [][]byte{rising(0, n-1), rising(256-n, 255), bytes.Repeat([]byte{255}, n), append(bytes.Repeat([]byte{255}, n-1), 254)}
		for range 5 {
			kinds = append(kinds, anyOf(x, n, "ab"), anyOf(x, n, "\xfd\xfe\xff"), anyOf(x, n, string(rising(0, 255))), anyOf(x, n, string(rising(144, 255))))
		}
		for i, b := range kinds {
			for _, many := range []int{40, 41 + i} {
				l = append(l, chain{fmt.Sprintf("%x %d times", b, many), b, many})
			}
		}
		l = append(l, chain{fmt.Sprintf("0 to %d, 2000 times", n-1), rising(0, n-1), 2000})
	}
	return l
}

// P7.2: from four to fifty bytes, whatever they are, that stand forty times or more one behind the other make fewer bytes than they are, in Fixed or in Dynamic: so the better one does; here each does.
func TestBytesAgainAndAgain(t *testing.T) {
	for i, c := range repeated() {
		b := bytes.Repeat(c.b, c.many)
		for _, how := range []int{Fixed, Dynamic} {
			p := packed(t, b, how)
			if len(p) >= len(b) {
				t.Errorf("%s, way %d: %d bytes of %d", c.what, how, len(p), len(b))
			}
			if out, n, e := inflate.All(p, len(b)); !bytes.Equal(out, b) || n != len(p) || e != api.OK {
				t.Errorf("%s, way %d: %x, %d of %d, %v", c.what, how, head(out), n, len(p), e)
			}
			if i%10 == 0 {
				unpacks(t, c.what, p, b)
			}
		}
		if _, how := Best(b); how == Stored {
			t.Errorf("%s: Stored is best", c.what)
		}
	}
}

// most are just as many bytes as may be: all alike, and by chance.
func most() [][]byte {
	b := make([]byte, 1<<24)
	rand.New(rand.NewSource(5)).Read(b)
	return [][]byte{make([]byte, 1<<24), b}
}

// P7.1 and P7.2: just 2^24 bytes are packed in each of the ways, within the bounds, and unpacked to what they were.
func TestAsManyAsMayBe(t *testing.T) {
	for i, b := range most() {
		for how := range 3 {
			t.Run(fmt.Sprintf("%d, way %d", i, how), func(t *testing.T) {
				t.Parallel()
				p := packed(t, b, how)
				out, n, e := inflate.All(p, len(b))
				if !bytes.Equal(out, b) || n != len(p) || e != api.OK {
					t.Errorf("%d bytes, %d of %d, %v", len(out), n, len(p), e)
				}
				if how == Stored && len(p) != 1<<24+5*257 {
					t.Errorf("%d bytes are stored", len(p))
				}
				if how == Fixed && len(p) > (9<<24+10+7)/8 || i == 0 && how != Stored && len(p) >= 1<<24/10+20 {
					t.Errorf("%d bytes", len(p))
				}
			})
		}
	}
}

// P7.1: more bytes than 2^24 are ErrLong in each of the ways, and nothing to Best, in one piece and in several.
func TestMoreThanMayBe(t *testing.T) {
	b := make([]byte, 1<<24+2)
	for _, n := range []int{1<<24 + 1, 1<<24 + 2} {
		for how := range 3 {
			if p, e := Pack(b[:n], how); len(p) != 0 || e != api.ErrLong {
				t.Errorf("%d bytes, way %d: %d bytes, %v, wanted ErrLong", n, how, len(p), e)
			}
		}
		for _, l := range [][][]byte{{b[:n]}, {b[:n-1], b[:1]}, {b[:1], b[:n-1]}, {nil, b[:1<<23], b[:n-1<<23], nil}, {b[:n], b[:n], b[:n]}} {
			if p, how := Best(l...); len(p) != 0 || how != 0 {
				t.Errorf("%d bytes in %d pieces: %d bytes, way %d", n, len(l), len(p), how)
			}
		}
	}
	if p, how := Best(b[:1<<23], nil, b[:1<<23]); len(p) == 0 || how != Dynamic {
		t.Errorf("2^24 bytes: %d bytes, way %d", len(p), how)
	}
}

// P7.1: pieces that are one piece of memory again and again may be more than memory holds: Best tells nothing, and makes nothing of them.
func TestFarMoreThanMayBe(t *testing.T) {
	b := make([]byte, 1<<24)
	l := make([][]byte, 1<<7-1)
	for i := range l {
		l[i] = b
	}
	if p, how := Best(l...); len(p) != 0 || how != 0 {
		t.Errorf("%d bytes, way %d", len(p), how)
	}
}
