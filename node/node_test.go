package node

import (
	"bytes"
	"encoding/hex"
	"math/rand"
	"slices"
	"strings"
	"testing"

	"inquest/api"
)

// P18.1: the example: a leaf without cells has 3 bytes.
func TestExample(t *testing.T) {
	for _, n := range []api.Node{{Leaf: true}, {Leaf: true, Cells: []api.Cell{}, Kids: []int{}}, leafOf(near("a", "b"))} {
		n.Cells = n.Cells[:0]
		b, e := Put(n)
		if e != api.OK || !bytes.Equal(b, []byte{1, 0, 0}) || Size(n) != 3 || !Right(n) {
			t.Errorf("%x, %v, %d", b, e, Size(n))
		}
		isRight(t, "no cell", n)
	}
	gets(t, "no cell", []byte{1, 0, 0}, leafOf())
}

// P18.1, P18.3: nodes whose bytes were written out by hand.
func TestKnown(t *testing.T) {
	for _, c := range []struct {
		want string
		n    api.Node
	}{
		{"01 0000", leafOf()},
		{"01 0100 01 61 0000", leafOf(near("a", ""))},
		{"01 0100 01 61 0200 7879", leafOf(near("a", "xy"))},
		{"01 0100 02 00ff 0100 00", leafOf(near("\x00\xff", "\x00"))},
		{"01 0100 01 61 4100 010000", leafOf(far("a", 1, 65))},
		{"01 0100 01 61 204e ffffff", leafOf(far("a", 1<<24-1, 20000))},
		{"01 0100 01 61 2c01 563412", leafOf(far("a", 0x123456, 300))},
		{"01 0200 01 61 0200 7879 02 6263 2c01 020100", leafOf(near("a", "xy"), far("bc", 258, 300))},
		{"01 0300 01 61 0001 000100 02 6161 0000 01 62 0100 7a", leafOf(far("a", 256, 256), near("aa", ""), near("b", "z"))},
		{"01 0200 01 7f 0000 01 80 0000", leafOf(near("\x7f", ""), near("\x80", ""))},
		{"02 0000 010000", innerOf(1)},
		{"02 0000 ffffff", innerOf(1<<24 - 1)},
		{"02 0100 050000 01 6b 060000", innerOf(5, "k")},
		{"02 0200 ff0000 01 00 000100 03 0a0b0c 010100", innerOf(255, "\x00", "\x0a\x0b\x0c")},
		{"02 0200 563412 01 61 010000 02 6161 ffffff", api.Node{Cells: []api.Cell{bare("a"), bare("aa")}, Kids: []int{0x123456, 1, 1<<24 - 1}}},
	} {
		want, err := hex.DecodeString(strings.ReplaceAll(c.want, " ", ""))
		if err != nil {
			t.Fatal(err)
		}
		if b, e := Put(c.n); e != api.OK || !bytes.Equal(b, want) {
			t.Errorf("Put(%s): %x, %v, wanted %x", brief(c.n), b, e, want)
		}
		if got := Size(c.n); got != len(want) {
			t.Errorf("Size(%s): %d, wanted %d", brief(c.n), got, len(want))
		}
		gets(t, "known", want, c.n)
		isRight(t, "known", c.n)
	}
}

// lengths are how many bytes a key, or a value, is tried with: the edges, and such as have an edge as their lowest byte.
var lengths = []int{0, 1, 2, 3, 8, 9, 10, 63, 64, 65, 66, 99, 119, 120, 121, 122, 127, 128, 129, 200, 254, 255, 256, 257, 300, 320, 321, 376, 377, 508, 512, 1024, 65535, 65536, 65537, 65537 + 119}

// P18.1: keys of 1 to 120 bytes, of leaves and of inner nodes, be they the first, the last, or the only one.
func TestKeys(t *testing.T) {
	for _, long := range lengths {
		asked := isWrong
		if long >= 1 && long <= 120 {
			asked = isRight
		}
		k := strings.Repeat("k", long)
		asked(t, "a leaf's only key", leafOf(near(k, "v")))
		asked(t, "a leaf's only key, the value elsewhere", leafOf(far(k, 7, 70)))
		asked(t, "an inner node's only key", innerOf(5, k))
		asked(t, "a leaf's last key", leafOf(near("a", ""), near("b", ""), near(k, "v")))
		asked(t, "an inner node's last key", innerOf(5, "a", "b", k))
		if long > 0 {
			asked(t, "a leaf's first key", leafOf(near(k, "v"), near("l", ""), near("m", "")))
			asked(t, "an inner node's first key", innerOf(5, k, "l", "m"))
			asked(t, "a leaf's key between", leafOf(near("j", ""), near(k, ""), near("l", "")))
		} else {
			asked(t, "a leaf's first key, others behind", leafOf(near("", ""), near("l", "")))
			asked(t, "an inner node's first key, others behind", innerOf(5, "", "l"))
			asked(t, "a key of a zero", leafOf(near("\x00", ""), near("", "")))
		}
	}
	isWrong(t, "a key that is nil", leafOf(api.Cell{}))
	isWrong(t, "a key that is nil", api.Node{Cells: []api.Cell{{}}, Kids: []int{1, 2}})
	for v := range 256 {
		isRight(t, "one byte", leafOf(near(string([]byte{byte(v)}), "")))
		isRight(t, "one byte", innerOf(1, string([]byte{byte(v)})))
	}
}

// P18.1: values of at most 64 bytes stand with the cell.
func TestValues(t *testing.T) {
	for _, long := range lengths {
		asked := isWrong
		if long <= 64 {
			asked = isRight
		}
		v := strings.Repeat("v", long)
		for _, k := range []string{"k", strings.Repeat("k", 120)} {
			asked(t, "the only value", leafOf(near(k, v)))
			asked(t, "the first value", leafOf(near(k, v), near("l", "x")))
			asked(t, "the last value", leafOf(near("a", "x"), near(k, v)))
			asked(t, "a value of zeros", leafOf(near(k, strings.Repeat("\x00", long))))
		}
	}
	for v := range 256 {
		isRight(t, "one byte", leafOf(near("k", string([]byte{byte(v)}))))
		isRight(t, "two bytes", leafOf(near("k", string([]byte{0, byte(v)}))))
	}
}

// pages are numbers that a node may name or not: the edges, and such as look right in their lowest bytes.
var pages = []int{-1 << 63, -1<<63 + 5, -1<<32 + 5, -1<<24 + 5, -1 << 24, -1<<24 + 1, -256, -5, -2, -1, 0, 1, 2, 255, 256, 257, 65535, 65536, 65537, 0x123456, 1<<23 - 1, 1 << 23, 1<<24 - 2, 1<<24 - 1, 1 << 24, 1<<24 + 1, 1<<25 - 1, 1 << 31, 1<<31 + 5, 1<<32 - 1, 1 << 32, 1<<32 + 5, 1<<48 + 5, 1<<56 + 5, 1<<62 + 5, 1<<63 - 1}

// longs are how many bytes a value may have elsewhere or not.
var longs = []int{-1 << 63, -1<<63 + 300, -1<<32 + 300, -1<<16 + 300, -20000, -300, -65, -64, -1, 0, 1, 2, 63, 64, 65, 66, 255, 256, 257, 300, 321, 508, 4096, 19999, 20000, 20001, 20032, 32767, 32768, 65535, 65536, 65536 + 64, 65536 + 65, 65536 + 300, 65536 + 20000, 1 << 24, 1<<32 + 300, 1<<56 + 300, 1<<62 + 300, 1<<63 - 1}

// P18.1: a value elsewhere has more than 64 bytes, at most 20000, and a page to begin at; neither is without the other.
func TestFar(t *testing.T) {
	for _, over := range pages {
		for _, long := range longs {
			asked := isWrong
			if over >= 1 && over <= 1<<24-1 && long >= 65 && long <= 20000 || over == 0 && long == 0 {
				asked = isRight
			}
			asked(t, "the only cell", leafOf(far("k", over, long)))
			asked(t, "the first cell", leafOf(far("k", over, long), near("l", "v")))
			asked(t, "the last cell", leafOf(near("j", "v"), far("k", over, long)))
			asked(t, "under a long key", leafOf(far(strings.Repeat("k", 120), over, long)))
		}
	}
	for long := range 20200 {
		if got := Right(leafOf(far("k", 9, long))); got != (long >= 65 && long <= 20000) {
			t.Errorf("Long %d: %v", long, got)
		}
	}
}

// P18.1: a value that stands with the cell has no page, and no length beside it.
func TestNearAndFar(t *testing.T) {
	for _, v := range []string{"", "v", strings.Repeat("v", 64), strings.Repeat("v", 65), strings.Repeat("v", 300)} {
		for _, over := range []int{-5, 0, 1, 5, 1<<24 - 1, 1 << 24} {
			for _, long := range []int{-300, 0, 1, len(v), 64, 65, 300, 20000, 20001} {
				c := api.Cell{Key: []byte("k"), Val: []byte(v), Over: over, Long: long}
				asModel(t, "both", leafOf(c))
				asModel(t, "both", leafOf(near("a", "v"), c, far("l", 5, 300)))
			}
		}
	}
	isWrong(t, "a value beside a page", leafOf(api.Cell{Key: []byte("k"), Val: []byte("v"), Over: 5}))
	isWrong(t, "a value beside a length", leafOf(api.Cell{Key: []byte("k"), Val: []byte("v"), Long: 300}))
	isWrong(t, "a value beside its own length", leafOf(api.Cell{Key: []byte("k"), Val: []byte("v"), Long: 1}))
	isWrong(t, "a value beside both", leafOf(api.Cell{Key: []byte("k"), Val: []byte("v"), Over: 5, Long: 300}))
	isWrong(t, "a page without a length", leafOf(far("k", 5, 0)))
	isWrong(t, "a length without a page", leafOf(far("k", 0, 300)))
}

// P18.1: a cell of an inner node has a key and nothing else, wherever it is.
func TestBare(t *testing.T) {
	for _, c := range []api.Cell{
		{Val: []byte("v")},
		{Val: []byte{0}},
		{Val: make([]byte, 64)},
		{Val: make([]byte, 65)},
		{Over: 1},
		{Over: -1},
		{Over: 1<<24 - 1},
		{Over: 1 << 24},
		{Long: 1},
		{Long: -1},
		{Long: 65},
		{Long: 20001},
		{Over: 5, Long: 300},
		{Over: -5, Long: -300},
		{Val: []byte("v"), Over: 5, Long: 300},
	} {
		for at := range 3 {
			n := innerOf(5, "k", "l", "m")
			c.Key = n.Cells[at].Key
			n.Cells[at] = c
			isWrong(t, "more than a key", n)
			n.Cells[at] = api.Cell{Key: c.Key, Val: []byte{}}
			isRight(t, "a key, and no bytes", n)
		}
		c.Key = []byte("k")
		isWrong(t, "more than a key", api.Node{Cells: []api.Cell{c}, Kids: []int{1, 2}})
	}
}

// P18.1: a leaf has no children, an inner node one more than it has keys.
func TestHowManyKids(t *testing.T) {
	for cells := range 6 {
		keys := strings.Split("abcdef", "")[:cells]
		n := innerOf(5, keys...)
		for kids := range 9 {
			n.Kids = make([]int, kids)
			for i := range n.Kids {
				n.Kids[i] = 9 - i
			}
			n.Leaf = false
			if kids == cells+1 {
				isRight(t, "a child more than keys", n)
			} else {
				isWrong(t, "another number of children", n)
			}
			n.Leaf = true
			if kids == 0 {
				isRight(t, "a leaf", n)
			} else {
				isWrong(t, "a leaf with children", n)
			}
		}
	}
	isWrong(t, "nothing at all", api.Node{})
	isWrong(t, "nothing at all", api.Node{Cells: []api.Cell{}, Kids: []int{}})
	isWrong(t, "a leaf with a child 0", api.Node{Leaf: true, Kids: []int{0}})
	isWrong(t, "children that are missing at all", api.Node{Cells: []api.Cell{bare("a"), bare("b")}})
}

// P18.1: children are pages from 1 to 2^24 - 1, in any order, one several times, too.
func TestKids(t *testing.T) {
	for _, no := range pages {
		asked := isWrong
		if no >= 1 && no <= 1<<24-1 {
			asked = isRight
		}
		asked(t, "the only child", innerOf(no))
		for at := range 4 {
			n := innerOf(9, "a", "b", "c")
			n.Kids[at] = no
			asked(t, "a child among others", n)
		}
	}
	isRight(t, "falling", api.Node{Cells: []api.Cell{bare("a"), bare("b")}, Kids: []int{3, 2, 1}})
	isRight(t, "alike", api.Node{Cells: []api.Cell{bare("a"), bare("b")}, Kids: []int{7, 7, 7}})
}

// P18.1: keys rise as bytes do: all pairs and all threes of some, in all orders.
func TestOrder(t *testing.T) {
	rising := []string{"\x00", "\x00\x00", "\x00\xff", "\x01", "A", "a", "a\x00", "aa", "aaa", "ab", "b", "\x7f", "\x80", "\x80\x00", "é", "\xff", "\xff\x00", "\xff\xff"}
	for i, a := range rising {
		for j, b := range rising {
			asked := isWrong
			if i < j {
				asked = isRight
			}
			asked(t, "two of a leaf", leafOf(near(a, "v"), far(b, 5, 300)))
			asked(t, "two of an inner node", innerOf(5, a, b))
			for k, c := range rising {
				asked := isWrong
				if i < j && j < k {
					asked = isRight
				}
				asked(t, "three of a leaf", leafOf(near(a, "v"), near(b, "v"), near(c, "w")))
				asked(t, "three of an inner node", innerOf(5, a, b, c))
			}
		}
	}
	stem := strings.Repeat("k", 119)
	isRight(t, "long ones that differ at the end", innerOf(5, stem, stem+"k", stem+"l"))
	isWrong(t, "long ones that fall at the end", innerOf(5, stem+"l", stem+"k"))
	isWrong(t, "long ones that are alike", innerOf(5, stem+"k", stem+"k"))
	for at := range 9 {
		keys := strings.Split("abcdefghij", "")
		keys[at], keys[at+1] = keys[at+1], keys[at]
		isWrong(t, "two exchanged", innerOf(5, keys...))
		isWrong(t, "one twice", innerOf(5, slices.Insert(strings.Split("abcdefghij", ""), at, keys[at+1])...))
	}
}

// manyCells are so many cells of keys of one byte, without values.
func manyCells(many int) []api.Cell {
	var l []api.Cell
	for i := range many {
		l = append(l, near(string([]byte{byte(i)}), ""))
	}
	return l
}

// manyKeys are so many keys of one byte, that rise.
func manyKeys(many int) []string {
	var l []string
	for i := range many {
		l = append(l, string([]byte{byte(i)}))
	}
	return l
}

// P18.1, P18.3: nodes of 507, 508 and 509 bytes: of as many cells as fit, of long keys and values, of values elsewhere, of children.
func TestFits(t *testing.T) {
	fits := func(why string, n api.Node, size int) {
		t.Helper()
		isRight(t, why, n)
		_, e := Put(n)
		if Size(n) != size || (e == api.OK) != (size <= 508) || e != api.OK && e != api.ErrLong {
			t.Errorf("%s: %d, %v", why, Size(n), e)
		}
	}
	l := manyCells(126)
	fits("as many cells as fit", leafOf(l...), 507)
	l[125].Val = []byte("v")
	fits("as many cells as fit", leafOf(l...), 508)
	l[0].Val = []byte("w")
	fits("a byte too many", leafOf(l...), 509)
	fits("a cell too many", leafOf(manyCells(127)...), 511)
	keys := manyKeys(100)
	fits("as many keys as fit", innerOf(9, keys...), 506)
	keys[99] += "x"
	fits("as many keys as fit", innerOf(9, keys...), 507)
	keys[99] += "x"
	fits("as many keys as fit", innerOf(9, keys...), 508)
	keys[0] += "x"
	fits("a byte too many", innerOf(9, keys...), 509)
	fits("a key too many", innerOf(9, manyKeys(101)...), 511)
	for size := 400; size <= 620; size++ {
		a, b, c := strings.Repeat("a", 120), strings.Repeat("b", 120), strings.Repeat("c", 120)
		if rest := size - 3 - 3*123; rest >= 0 && rest <= 3*64 {
			first, second := min(rest, 64), max(0, min(rest-64, 64))
			fits("long keys and values", leafOf(near(a, strings.Repeat("v", first)), near(b, strings.Repeat("\x00", second)), near(c, strings.Repeat("w", rest-first-second))), size)
		}
		if rest := size - 3 - 3*126 - 4; rest >= 0 && rest <= 119 {
			fits("values elsewhere", leafOf(far(a, 1, 65), far(b, 2, 20000), far(c, 3, 300), near("d"+strings.Repeat("d", rest), "")), size)
		}
		if rest := size - 6 - 3*124 - 4; rest >= 1 && rest <= 120 {
			fits("long keys of an inner node", innerOf(1<<24-6, a, b, c, strings.Repeat("d", rest)), size)
		}
	}
}

// P18.1: Size, and ErrLong, of nodes far beyond what fits, with more cells than two bytes can tell, too.
func TestFarBeyond(t *testing.T) {
	for _, many := range []int{128, 255, 256, 257, 1000, 65535, 65536, 65537, 70000} {
		n, m := api.Node{Leaf: true}, api.Node{Kids: []int{7}}
		size, inner := 3, 6
		for i := range many {
			k := string([]byte{byte(i >> 16), byte(i >> 8), byte(i)})
			c := near(k, strings.Repeat("v", i%65))
			size += 6 + i%65
			if i%5 == 0 {
				c = far(k, 1+i, 65+i%1000)
				size += 3 - i%65
			}
			n.Cells = append(n.Cells, c)
			m.Cells = append(m.Cells, bare(k))
			m.Kids = append(m.Kids, 1+i)
			inner += 7
		}
		for why, c := range map[string]struct {
			n    api.Node
			size int
		}{"a leaf": {n, size}, "an inner node": {m, inner}} {
			b, e := Put(c.n)
			if !Right(c.n) || Size(c.n) != c.size || len(b) != 0 || e != api.ErrLong {
				t.Errorf("%s of %d cells: %v, %d, %v, wanted %d", why, many, Right(c.n), Size(c.n), e, c.size)
			}
			c.n.Cells[many-1].Key = c.n.Cells[many-2].Key
			b, e = Put(c.n)
			if Right(c.n) || Size(c.n) != 0 || len(b) != 0 || e != api.ErrArg {
				t.Errorf("%s of %d cells, one twice: %v, %d, %v", why, many, Right(c.n), Size(c.n), e)
			}
		}
	}
}

// P18.1, R2: what isn't right is ErrArg ahead of ErrLong, and has no size, also where it would be more than 508.
func TestErrArgAheadOfErrLong(t *testing.T) {
	leaf := func() api.Node { return leafOf(manyCells(200)...) }
	inner := func() api.Node { return innerOf(9, manyKeys(200)...) }
	if _, e := Put(leaf()); e != api.ErrLong {
		t.Error(e)
	}
	if _, e := Put(inner()); e != api.ErrLong {
		t.Error(e)
	}
	for at := range 200 {
		n, m := leaf(), inner()
		n.Cells[at].Key, m.Cells[at].Key = nil, []byte{}
		isWrong(t, "too long, and an empty key", n)
		isWrong(t, "too long, and an empty key", m)
		n, m = leaf(), inner()
		n.Cells[at].Val, m.Cells[at].Val = make([]byte, 65), []byte{1}
		isWrong(t, "too long, and a value that may not be", n)
		isWrong(t, "too long, and a value", m)
		n, m = leaf(), inner()
		n.Cells[at].Long, m.Kids[at] = 300, 0
		isWrong(t, "too long, and a length without a page", n)
		isWrong(t, "too long, and a child that is no page", m)
		n, m = leaf(), inner()
		n.Cells[at].Key = bytes.Repeat([]byte{byte(at)}, 121)
		isWrong(t, "too long, and too long a key", n)
		m.Kids = slices.Delete(m.Kids, at, at+1)
		isWrong(t, "too long, and a child too few", m)
		n.Kids = []int{5}
		isWrong(t, "too long, and three reasons", n)
	}
	isWrong(t, "a value so long that it doesn't fit", leafOf(near("k", strings.Repeat("v", 600))))
	isWrong(t, "a key so long that it doesn't fit", leafOf(near(strings.Repeat("k", 600), "")))
	isWrong(t, "a leaf with so many children that it doesn't fit", api.Node{Leaf: true, Kids: slices.Repeat([]int{5}, 300)})
	isWrong(t, "so many children that it doesn't fit", api.Node{Kids: slices.Repeat([]int{5}, 300)})
}

// P18.1, P18.3: drawn nodes, of any size.
func TestDrawn(t *testing.T) {
	x := rand.New(rand.NewSource(1))
	put, long := 0, 0
	for range 10000 {
		n := drawn(x)
		isRight(t, "drawn", n)
		if Size(n) > 508 {
			long++
		} else {
			put++
		}
	}
	if put < 2500 || long < 500 {
		t.Errorf("%d were put, %d too long", put, long)
	}
}

// P18.1: drawn nodes, of which something was changed: mostly they aren't right any more.
func TestDrawnChanged(t *testing.T) {
	x := rand.New(rand.NewSource(2))
	right, wrong := 0, 0
	for range 20000 {
		n := changed(x, drawn(x))
		asModel(t, "drawn, and changed", n)
		if isNode(n) {
			right++
		} else {
			wrong++
		}
	}
	if right < 1000 || wrong < 5000 {
		t.Errorf("%d were right, %d were not", right, wrong)
	}
}

// changed is n with one thing or two that are another.
func changed(x *rand.Rand, n api.Node) api.Node {
	for range 1 + x.Intn(2) {
		at := x.Intn(len(n.Cells) + 1)
		switch x.Intn(5) {
		case 0:
			n.Leaf = !n.Leaf
		case 1:
			n.Kids = slices.Insert(n.Kids, x.Intn(len(n.Kids)+1), pages[x.Intn(len(pages))])
		case 2:
			if len(n.Kids) > 0 {
				n.Kids = n.Kids[1:]
			}
		case 3:
			n.Cells = slices.Insert(n.Cells, at, near(string(drawnBytes(x, lengths[x.Intn(15)])), string(drawnBytes(x, lengths[x.Intn(12)]))))
		default:
			if at == len(n.Cells) {
				continue
			}
			c := &n.Cells[at]
			switch x.Intn(4) {
			case 0:
				c.Key = drawnBytes(x, lengths[x.Intn(18)])
			case 1:
				c.Val = drawnBytes(x, lengths[x.Intn(14)])
			case 2:
				c.Over = pages[x.Intn(len(pages))]
			default:
				c.Long = longs[x.Intn(len(longs))]
			}
		}
	}
	return n
}
