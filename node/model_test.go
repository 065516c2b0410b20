package node

import (
	"bytes"
	"math/rand"
	"slices"
	"strconv"
	"testing"

	"inquest/api"
)

// two and three are a number's bytes, the lowest first.
func two(n int) []byte   { return []byte{byte(n), byte(n >> 8)} }
func three(n int) []byte { return []byte{byte(n), byte(n >> 8), byte(n >> 16)} }

// laid is how a node stands by the chapter's words, whether it is right or not.
func laid(n api.Node) []byte {
	if !n.Leaf {
		b := append([]byte{2}, two(len(n.Cells))...)
		for i := range max(len(n.Cells), len(n.Kids)) {
			if i < len(n.Kids) {
				b = append(b, three(n.Kids[i])...)
			}
			if i < len(n.Cells) {
				b = append(b, byte(len(n.Cells[i].Key)))
				b = append(b, n.Cells[i].Key...)
			}
		}
		return b
	}
	b := append([]byte{1}, two(len(n.Cells))...)
	for _, c := range n.Cells {
		b = append(b, byte(len(c.Key)))
		b = append(b, c.Key...)
		if c.Over != 0 || c.Long != 0 {
			b = append(b, two(c.Long)...)
			b = append(b, three(c.Over)...)
		} else {
			b = append(b, two(len(c.Val))...)
			b = append(b, c.Val...)
		}
	}
	return b
}

// mayBePage tells whether a node may name that page.
func mayBePage(no int) bool { return no >= 1 && no <= 16777215 }

// keysRise tells whether all keys have 1 to 120 bytes, and are above all that are ahead.
func keysRise(l []api.Cell) bool {
	for i, c := range l {
		if len(c.Key) < 1 || len(c.Key) > 120 || i > 0 && string(l[i-1].Key) >= string(c.Key) {
			return false
		}
	}
	return true
}

// isNode tells whether the node is right by the chapter's words.
func isNode(n api.Node) bool {
	for _, c := range n.Cells {
		here := len(c.Val) <= 64 && c.Over == 0 && c.Long == 0
		there := len(c.Val) == 0 && c.Long >= 65 && c.Long <= 20000 && mayBePage(c.Over)
		nothing := len(c.Val) == 0 && c.Over == 0 && c.Long == 0
		if n.Leaf && !here && !there || !n.Leaf && !nothing {
			return false
		}
	}
	for _, no := range n.Kids {
		if !mayBePage(no) {
			return false
		}
	}
	many := 0
	if !n.Leaf {
		many = len(n.Cells) + 1
	}
	return keysRise(n.Cells) && len(n.Kids) == many
}

// told is the node whose bytes b begins with, by the chapter's words, if zeros alone are behind.
func told(b []byte) (n api.Node, is bool) {
	defer func() {
		if recover() != nil {
			n, is = api.Node{}, false
		}
	}()
	eat := func(many int) []byte {
		piece := b[:many:len(b)]
		b = b[many:]
		return bytes.Clone(piece)
	}
	number := func(wide int) int {
		out := 0
		for i, x := range eat(wide) {
			out += int(x) << (8 * i)
		}
		return out
	}
	b = slices.Clip(b)
	mark, many := number(1), number(2)
	switch mark {
	case 1:
		n.Leaf = true
	case 2:
		n.Kids = []int{number(3)}
	default:
		return api.Node{}, false
	}
	for range many {
		c := api.Cell{Key: eat(number(1))}
		if !n.Leaf {
			n.Kids = append(n.Kids, number(3))
		} else if long := number(2); long > 64 {
			c.Long, c.Over = long, number(3)
		} else {
			c.Val = eat(long)
		}
		n.Cells = append(n.Cells, c)
	}
	if !isNode(n) || bytes.Count(b, []byte{0}) != len(b) {
		return api.Node{}, false
	}
	return n, true
}

// shown is all that a node has, as a text: two nodes are the same if these are.
func shown(n api.Node) string {
	s := []byte("inner")
	if n.Leaf {
		s = []byte("leaf")
	}
	for _, no := range n.Kids {
		s = strconv.AppendInt(append(s, ' '), int64(no), 10)
	}
	for _, c := range n.Cells {
		s = strconv.AppendQuote(append(s, ' '), string(c.Key))
		s = strconv.AppendQuote(append(s, ':'), string(c.Val))
		s = strconv.AppendInt(append(s, ':'), int64(c.Over), 10)
		s = strconv.AppendInt(append(s, ':'), int64(c.Long), 10)
	}
	return string(s)
}

// brief is as much of a node as a message has room for.
func brief(n api.Node) string {
	s := shown(n)
	return s[:min(len(s), 300)]
}

// asModel asks that all that is told of the node is as the chapter's words tell it.
func asModel(t *testing.T, why string, n api.Node) {
	t.Helper()
	want, size, is := api.OK, len(laid(n)), isNode(n)
	switch {
	case !is:
		want, size = api.ErrArg, 0
	case size > 508:
		want = api.ErrLong
	}
	if got := Right(n); got != is {
		t.Errorf("%s: Right(%s): %v", why, brief(n), got)
	}
	if got := Size(n); got != size {
		t.Errorf("%s: Size(%s): %d, wanted %d", why, brief(n), got, size)
	}
	b, e := Put(n)
	if e != want || e != api.OK && len(b) != 0 || e == api.OK && !bytes.Equal(b, laid(n)) {
		t.Errorf("%s: Put(%s): %x, %v, wanted %v", why, brief(n), b, e, want)
	}
	if e == api.OK {
		gets(t, why, b, n)
		gets(t, why, append(b, make([]byte, 508-len(b))...), n)
	}
}

// isRight asks that the node is right, and all else that the chapter tells of it.
func isRight(t *testing.T, why string, n api.Node) {
	t.Helper()
	if !isNode(n) || !Right(n) {
		t.Errorf("%s: %s isn't right", why, brief(n))
	}
	asModel(t, why, n)
}

// isWrong asks that the node isn't right, and all else that the chapter tells of it.
func isWrong(t *testing.T, why string, n api.Node) {
	t.Helper()
	if isNode(n) || Right(n) {
		t.Errorf("%s: %s is right", why, brief(n))
	}
	asModel(t, why, n)
}

// gets asks that b begins with the bytes of that node.
func gets(t *testing.T, why string, b []byte, want api.Node) {
	t.Helper()
	if n, e := Get(b); e != api.OK || shown(n) != shown(want) {
		t.Errorf("%s: Get(%.600x): %s, %v, wanted %s", why, b, brief(n), e, brief(want))
	}
}

// getsNot asks that b is told to be none, and that nothing comes beside the error.
func getsNot(t *testing.T, why string, b []byte) {
	t.Helper()
	if n, e := Get(b); e != api.ErrForm || shown(n) != shown(api.Node{}) {
		t.Errorf("%s: Get(%.600x): %s, %v, wanted %v", why, b, brief(n), e, api.ErrForm)
	}
}

// getsAsModel asks that b is read as the chapter's words tell, and tells whether it is a node.
func getsAsModel(t *testing.T, why string, b []byte) bool {
	t.Helper()
	n, is := told(b)
	if is {
		gets(t, why, b, n)
	} else {
		getsNot(t, why, b)
	}
	return is
}

// near is a cell whose value stands with it, far one whose value is elsewhere, bare one that has a key alone.
func near(key, val string) api.Cell { return api.Cell{Key: []byte(key), Val: []byte(val)} }
func far(key string, over, long int) api.Cell {
	return api.Cell{Key: []byte(key), Over: over, Long: long}
}
func bare(key string) api.Cell { return api.Cell{Key: []byte(key)} }

// leafOf is a leaf of these cells.
func leafOf(l ...api.Cell) api.Node { return api.Node{Leaf: true, Cells: l} }

// innerOf is an inner node of these keys, with the children that it must have, from that page on.
func innerOf(first int, keys ...string) api.Node {
	n := api.Node{Kids: []int{first}}
	for i, k := range keys {
		n.Cells = append(n.Cells, bare(k))
		n.Kids = append(n.Kids, first+1+i)
	}
	return n
}

// drawnBytes are n bytes in no order.
func drawnBytes(x *rand.Rand, n int) []byte {
	b := make([]byte, n)
	x.Read(b)
	return b
}

// drawnKeys are at most so many keys that rise, as texts.
func drawnKeys(x *rand.Rand, many int) []string {
	long, kinds := 1+x.Intn(120), 1+x.Intn(256)
	var l []string
	for range many {
		b := drawnBytes(x, 1+x.Intn(long))
		for i := range b {
			b[i] = byte(int(b[i]) % kinds)
		}
		l = append(l, string(b))
	}
	slices.Sort(l)
	return slices.Compact(l)
}

// drawn is a node that is right, though it may not fit.
func drawn(x *rand.Rand) api.Node {
	keys := drawnKeys(x, x.Intn(1<<x.Intn(8)))
	n := api.Node{Leaf: x.Intn(2) == 0}
	for _, k := range keys {
		c := bare(k)
		if n.Leaf && x.Intn(3) == 0 {
			c.Over, c.Long = 1+x.Intn(1<<24-1), 65+x.Intn(20000-64)
		} else if n.Leaf {
			c.Val = drawnBytes(x, x.Intn(1+x.Intn(65)))
		}
		n.Cells = append(n.Cells, c)
		n.Kids = append(n.Kids, 1+x.Intn(1<<24-1))
	}
	if n.Leaf {
		n.Kids = nil
	} else {
		n.Kids = append(n.Kids, 1+x.Intn(1<<24-1))
	}
	return n
}

// copied is the node, sharing nothing.
func copied(n api.Node) api.Node {
	out := api.Node{Leaf: n.Leaf, Kids: slices.Clone(n.Kids)}
	for _, c := range n.Cells {
		out.Cells = append(out.Cells, api.Cell{Key: slices.Clone(c.Key), Val: slices.Clone(c.Val), Over: c.Over, Long: c.Long})
	}
	return out
}
