package node

import (
	"bytes"
	"math/rand"
	"slices"
	"strings"
	"testing"

	"inquest/api"
)

// some are nodes that are right and fit: of no cell, of one, of a few, and of as many as fit.
func some() []api.Node {
	a, b := strings.Repeat("a", 120), strings.Repeat("b", 120)
	full := manyCells(126)
	full[60].Val = []byte("v")
	keys := manyKeys(100)
	keys[50] += "xy"
	return []api.Node{
		leafOf(),
		leafOf(near("a", "")),
		leafOf(near("k", "value")),
		leafOf(near("\x00", "\x00")),
		leafOf(near("\x00", "\x00"), near("\x01", "\x00\x00")),
		leafOf(far("k", 5, 300)),
		leafOf(far("\x00", 1<<16, 65), far("\x00\x00", 1, 256)),
		leafOf(near("a", "xy"), far("bc", 258, 300), near("d", strings.Repeat("d", 64))),
		leafOf(near(a, strings.Repeat("v", 64)), near(b, strings.Repeat("\x00", 64)), far("c", 1<<24-1, 20000)),
		leafOf(full...),
		innerOf(1),
		innerOf(1 << 16),
		innerOf(1<<24 - 1),
		innerOf(5, "k"),
		innerOf(255, "\x00", "\x00\x00", "\x01"),
		innerOf(1<<16-1, "a", "b", "c"),
		innerOf(1<<24-5, a, b, strings.Repeat("c", 119)),
		innerOf(9, keys...),
	}
}

// P18.1, P18.3: what is put is got, with any number of zeros behind it, or without.
func TestZerosBehind(t *testing.T) {
	for _, n := range some() {
		b := laid(n)
		for many := range 600 {
			gets(t, "zeros behind", append(bytes.Clone(b), make([]byte, many)...), n)
		}
		for _, many := range []int{4096, 65536, 1 << 20} {
			gets(t, "zeros behind", append(bytes.Clone(b), make([]byte, many)...), n)
		}
	}
}

// P18.1: ErrForm: nothing, and each beginning of a node's bytes, whatever stands behind it in memory; nor with zeros behind it, unless that is the node.
func TestBeginnings(t *testing.T) {
	getsNot(t, "nil", nil)
	getsNot(t, "nothing", []byte{})
	for _, n := range some() {
		b := laid(n)
		for long := range b {
			getsNot(t, "a beginning", b[:long])
			getsNot(t, "a beginning, nothing behind", slices.Clip(b[:long]))
			for _, many := range []int{1, 2, 3, 64, 600} {
				getsAsModel(t, "a beginning, and zeros", append(bytes.Clone(b[:long]), make([]byte, many)...))
			}
		}
		for from := 1; from < len(b); from++ {
			getsAsModel(t, "an end", b[from:])
		}
		gets(t, "all of it", b, n)
	}
}

// P18.1: ErrForm: any other byte than zero behind a node, wherever.
func TestOthersBehind(t *testing.T) {
	for _, n := range some() {
		b := laid(n)
		for v := 1; v < 256; v++ {
			getsNot(t, "another byte behind", append(bytes.Clone(b), byte(v)))
			getsNot(t, "another byte between zeros", append(bytes.Clone(b), 0, byte(v), 0))
		}
		for many := range 520 {
			getsNot(t, "another byte behind zeros", append(append(bytes.Clone(b), make([]byte, many)...), 1))
			getsNot(t, "another byte ahead of zeros", append(append(bytes.Clone(b), 128), make([]byte, many)...))
		}
		for _, m := range some() {
			getsNot(t, "a node behind", append(bytes.Clone(b), laid(m)...))
		}
		getsNot(t, "another byte far behind", append(append(bytes.Clone(b), make([]byte, 1<<20)...), 7))
	}
}

// P18.1: ErrForm: another first byte.
func TestOtherMarks(t *testing.T) {
	for _, n := range some() {
		b := laid(n)
		for v := range 256 {
			b[0] = byte(v)
			if is := getsAsModel(t, "another mark", b); is && v != 1 && v != 2 {
				t.Errorf("%d is no mark", v)
			}
		}
	}
	for v := range 256 {
		is := getsAsModel(t, "the mark alone, and zeros", append([]byte{byte(v)}, make([]byte, 507)...))
		if is != (v == 1) {
			t.Errorf("%d and zeros: %v", v, is)
		}
		getsNot(t, "the mark alone", []byte{byte(v)})
	}
	getsNot(t, "zeros", make([]byte, 508))
	getsNot(t, "ones", bytes.Repeat([]byte{255}, 508))
	getsNot(t, "an inner node as a leaf", append([]byte{1}, laid(innerOf(1<<16, "k"))[1:]...))
	getsNot(t, "a leaf as an inner node", append([]byte{2}, laid(leafOf(near("k", "value")))[1:]...))
}

// P18.1: ErrForm: numbers of cells that say more than there is, or less.
func TestOtherNumberOfCells(t *testing.T) {
	for _, n := range some() {
		b := laid(n)
		for _, many := range []int{0, 1, 2, 3, 4, 5, 99, 100, 101, 125, 126, 127, 128, 255, 256, 257, 256 + len(n.Cells), 512, 32768 + len(n.Cells), 65280, 65535} {
			if many == len(n.Cells) {
				continue
			}
			copy(b[1:], two(many))
			getsNot(t, "another number of cells", b)
			getsNot(t, "another number of cells, zeros behind", append(bytes.Clone(b), make([]byte, 600)...))
		}
	}
	for many := 1; many < 65536; many++ {
		b := append([]byte{1}, two(many)...)
		getsNot(t, "none of the cells that are told", b)
		b[0] = 2
		getsNot(t, "none of the keys that are told", append(b, 5, 0, 0))
	}
}

// P18.1: ErrForm: lengths of keys that say more than there is, or less, or what may not be.
func TestOtherLengthsOfKeys(t *testing.T) {
	for long := range 256 {
		k := strings.Repeat("k", long)
		for _, n := range []api.Node{leafOf(near(k, "value")), leafOf(far(k, 5, 300)), leafOf(near("a", ""), near(k, "")), innerOf(5, k), innerOf(5, "a", k)} {
			is := getsAsModel(t, "a key of any length", laid(n))
			if is != (long >= 1 && long <= 120) {
				t.Errorf("a key of %d bytes: %v", long, is)
			}
		}
	}
	for _, n := range []api.Node{leafOf(near("key", "value")), leafOf(far("key", 5, 300)), innerOf(5, "key")} {
		at := bytes.Index(laid(n), []byte("key")) - 1
		for long := range 256 {
			b := laid(n)
			b[at] = byte(long)
			if is := getsAsModel(t, "another length of a key", b); long == 3 && !is {
				t.Errorf("%x isn't a node", b)
			}
			getsAsModel(t, "another length of a key, zeros behind", append(b, make([]byte, 300)...))
		}
	}
}

// P18.1: up to 64 a value's length is of bytes that stand there, up to 20000 of such as are elsewhere; ErrForm beyond.
func TestOtherLengthsOfValues(t *testing.T) {
	for long := range 65536 {
		here := append([]byte{1, 1, 0, 1, 'k'}, two(long)...)
		there := append(bytes.Clone(here), 1, 2, 3)
		if long <= 64 {
			n := leafOf(near("k", strings.Repeat("v", long)))
			gets(t, "a value that is here", append(here, n.Cells[0].Val...), n)
			getsNot(t, "one byte more", append(here, strings.Repeat("v", long+1)...))
			if long > 0 {
				getsNot(t, "one byte fewer", append(here, strings.Repeat("v", long-1)...))
			}
			continue
		}
		if long > 20000 {
			getsNot(t, "a value that is too long", there)
			continue
		}
		gets(t, "a value elsewhere", there, leafOf(far("k", 0x030201, long)))
		if long < 500 {
			getsNot(t, "a page of two bytes", there[:9])
			getsNot(t, "a page of four bytes", append(there, 4))
			getsNot(t, "bytes where the page is to stand", append(here, strings.Repeat("v", long)...))
			getsNot(t, "page 0", append(here, 0, 0, 0))
		}
	}
}

// P18.1: ErrForm: bytes that tell a node that isn't right, each reason alone.
func TestNotRight(t *testing.T) {
	long := strings.Repeat("k", 121)
	for why, n := range map[string]api.Node{
		"an empty key":                        leafOf(near("", "v")),
		"an empty key ahead":                  leafOf(near("", "v"), near("k", "v")),
		"an empty key behind":                 leafOf(near("k", "v"), near("", "v")),
		"an empty key of an inner node":       innerOf(5, ""),
		"an empty key ahead, inner":           innerOf(5, "", "k"),
		"a long key":                          leafOf(near(long, "v")),
		"a long key ahead":                    leafOf(near(long, "v"), near("l", "v")),
		"a long key, the value elsewhere":     leafOf(far(long, 5, 300)),
		"a long key of an inner node":         innerOf(5, long),
		"keys that fall":                      leafOf(near("l", "v"), near("k", "v")),
		"keys that fall, inner":               innerOf(5, "l", "k"),
		"keys that fall at the end":           innerOf(5, "a", "l", "k"),
		"a key twice":                         leafOf(near("k", "v"), near("k", "w")),
		"a key twice, inner":                  innerOf(5, "k", "k"),
		"a key, and a beginning of it":        leafOf(near("kk", "v"), near("k", "v")),
		"bytes above 127 ahead of one below":  leafOf(near("\x80", ""), near("\x7f", "")),
		"a length without a page":             leafOf(far("k", 0, 300)),
		"too great a length":                  leafOf(far("k", 5, 20001)),
		"the greatest length":                 leafOf(far("k", 5, 65535)),
		"too great a length, another behind":  leafOf(far("k", 5, 20001), near("l", "")),
		"a child that is no page":             innerOf(0),
		"a first child that is no page":       innerOf(0, "k"),
		"a last child that is no page":        {Cells: []api.Cell{bare("k")}, Kids: []int{5, 0}},
		"a child between that is no page":     {Cells: []api.Cell{bare("k"), bare("l")}, Kids: []int{5, 0, 6}},
		"an inner node without any child":     {},
		"an inner node with a child too few":  {Cells: []api.Cell{bare("k")}, Kids: []int{5}},
		"an inner node with a child too many": {Cells: []api.Cell{bare("k")}, Kids: []int{5, 6, 7}},
		"a leaf with a child":                 {Leaf: true, Cells: []api.Cell{bare("k")}, Kids: []int{5}},
	} {
		b := laid(n)
		if n.Leaf && len(n.Kids) > 0 {
			b = append(b, three(n.Kids[0])...)
		}
		getsNot(t, why, b)
		getsNot(t, why+", and zeros", append(b, make([]byte, 508-len(b))...))
		isWrong(t, why, n)
	}
}

// P18.1: Get asks for no size: also the bytes of a node that wouldn't fit are a node's.
func TestMoreThanFits(t *testing.T) {
	for _, many := range []int{120, 127, 128, 255, 256, 257, 300, 65535} {
		n, m := api.Node{Leaf: true}, api.Node{Kids: []int{7}}
		for i := range many {
			k := string([]byte{byte(i >> 8), byte(i)})
			n.Cells = append(n.Cells, near(k, strings.Repeat("v", i%3)))
			m.Cells = append(m.Cells, bare(k))
			m.Kids = append(m.Kids, 1+i)
		}
		for _, n := range []api.Node{n, m} {
			b := laid(n)
			gets(t, "more than fits", b, n)
			gets(t, "more than fits, zeros behind", append(bytes.Clone(b), 0, 0, 0, 0), n)
			getsNot(t, "another byte behind", append(bytes.Clone(b), 1))
			getsNot(t, "a byte missing", b[:len(b)-1])
		}
	}
}

// P18.1, W5: all bytes of a few kinds, up to nine of them, behind either mark, or none.
func TestAllBytes(t *testing.T) {
	kinds := []byte{0, 1, 2, 3, 'k'}
	nodes := 0
	for long := range 10 {
		b := make([]byte, long)
		for row := range power(len(kinds), max(long-1, 0)) {
			for i := range max(long-1, 0) {
				b[1+i] = kinds[row%len(kinds)]
				row /= len(kinds)
			}
			for mark := range min(3, 1+long*3) {
				if long > 0 {
					b[0] = byte(mark)
				}
				if getsAsModel(t, "all bytes", b) {
					nodes++
				}
			}
		}
	}
	if nodes < 500 {
		t.Errorf("only %d were nodes", nodes)
	}
}

func power(n, many int) int {
	out := 1
	for range many {
		out *= n
	}
	return out
}

// P18.1: all bytes of a few kinds behind the beginning of a leaf of two cells, and of an inner node of two keys.
func TestAllBytesOfTwo(t *testing.T) {
	kinds := []byte{0, 1, 2, 'k'}
	nodes := 0
	for _, begun := range []string{"\x01\x02\x00", "\x01\x02\x00\x01a", "\x02\x02\x00\x05\x00\x00\x01", "\x02\x01\x00\x05\x00\x00"} {
		for row := range power(len(kinds), 8) {
			b := []byte(begun)
			for range 8 {
				b = append(b, kinds[row%len(kinds)])
				row /= len(kinds)
			}
			if getsAsModel(t, "all bytes", b) {
				nodes++
			}
		}
	}
	if nodes < 100 {
		t.Errorf("only %d were nodes", nodes)
	}
}

// P18.1, W5: drawn nodes' bytes, of which some were changed, put in, left out, or cut off.
func TestChangedBytes(t *testing.T) {
	x := rand.New(rand.NewSource(3))
	nodes, others := 0, 0
	for range 20000 {
		b := laid(drawn(x))
		for range 1 + x.Intn(2) {
			at := x.Intn(len(b) + 1)
			switch x.Intn(6) {
			case 0:
				b = slices.Insert(b, at, byte(x.Intn(256)))
			case 1:
				b = append(b, make([]byte, x.Intn(9))...)
			case 2:
				b = b[:at]
			case 3:
				b = slices.Delete(b, at/2, at)
			default:
				if at < len(b) {
					b[at] ^= byte(1 << x.Intn(8))
				}
			}
		}
		if getsAsModel(t, "changed bytes", b) {
			nodes++
		} else {
			others++
		}
	}
	if nodes < 5000 || others < 10000 {
		t.Errorf("%d were nodes, %d were not", nodes, others)
	}
}

// P18.1: each byte of some nodes, with each bit turned, and changed to values at the edges.
func TestEachByteChanged(t *testing.T) {
	for _, n := range some() {
		b := laid(n)
		for at := range b {
			was := b[at]
			for _, v := range []byte{0, 1, 2, 64, 65, 78, 120, 121, 255, was + 1, was - 1, was ^ 1, was ^ 2, was ^ 4, was ^ 8, was ^ 16, was ^ 32, was ^ 64, was ^ 128} {
				b[at] = v
				getsAsModel(t, "a byte changed", b)
			}
			b[at] = was
		}
		gets(t, "as it was", b, n)
	}
}

// R1, W5: any bytes.
func TestAnyBytes(t *testing.T) {
	x := rand.New(rand.NewSource(4))
	for range 20000 {
		b := drawnBytes(x, x.Intn(600))
		for i := range b {
			if x.Intn(2) == 0 {
				b[i] %= 4
			}
		}
		getsAsModel(t, "any bytes", b)
	}
}
