package node

import (
	"bytes"
	"math/rand"
	"slices"
	"strings"
	"sync"
	"testing"

	"inquest/api"
)

// R1, R2: any nodes: each call ends, and tells what the chapter's words tell.
func TestAnyNodes(t *testing.T) {
	x := rand.New(rand.NewSource(8))
	right := 0
	for range 40000 {
		n := api.Node{Leaf: x.Intn(2) == 0}
		for range x.Intn(4) {
			n.Kids = append(n.Kids, pages[x.Intn(len(pages))])
		}
		for range x.Intn(4) {
			c := near(string(drawnBytes(x, lengths[x.Intn(16)])), "")
			if x.Intn(4) == 0 {
				c.Val = drawnBytes(x, lengths[x.Intn(14)])
			}
			if x.Intn(4) == 0 {
				c.Over, c.Long = pages[x.Intn(len(pages))], longs[x.Intn(len(longs))]
			}
			n.Cells = append(n.Cells, c)
		}
		asModel(t, "any node", n)
		finds(t, n, string(drawnBytes(x, x.Intn(200))))
		if !Same(n, n) {
			t.Errorf("%s isn't the same as itself", brief(n))
		}
		if isNode(n) {
			right++
		}
	}
	if right < 1000 {
		t.Errorf("only %d were right", right)
	}
}

// R3: nil and empty lists are one, handed in.
func TestNilIsEmpty(t *testing.T) {
	for _, n := range []api.Node{
		{Leaf: true, Kids: []int{}},
		{Leaf: true, Cells: []api.Cell{}},
		{Leaf: true, Cells: []api.Cell{{Key: []byte("k"), Val: []byte{}}}},
		{Leaf: true, Cells: []api.Cell{{Key: []byte("k"), Val: nil}}},
		{Leaf: true, Cells: []api.Cell{{Key: []byte("k"), Val: []byte{}, Over: 5, Long: 300}}, Kids: []int{}},
		{Cells: []api.Cell{}, Kids: []int{5}},
		{Cells: []api.Cell{{Key: []byte("k"), Val: []byte{}}}, Kids: []int{5, 6}},
	} {
		isRight(t, "nil and empty", n)
	}
	for _, n := range some() {
		finds(t, n, "")
		at, is := Find(n, nil)
		if again, was := Find(n, []byte{}); again != at || was != is {
			t.Errorf("Find(%s): %d, %v, and %d, %v", brief(n), at, is, again, was)
		}
	}
}

// R3: fields that have no meaning are zero in what is got: a leaf has no children, a value elsewhere no bytes here, a value here no page, a key of an inner node nothing else.
func TestOthersAreZero(t *testing.T) {
	for _, n := range some() {
		got, e := Get(laid(n))
		if e != api.OK || got.Leaf && len(got.Kids) != 0 {
			t.Errorf("%s: %v, %v", brief(n), e, got.Kids)
		}
		for _, c := range got.Cells {
			if c.Long > 0 && len(c.Val) != 0 || c.Long == 0 && c.Over != 0 || !got.Leaf && (c.Long != 0 || len(c.Val) != 0) {
				t.Errorf("%s: %v", brief(n), c)
			}
		}
	}
}

// roomy is b, with room behind it that is filled, so that it is seen if that is read, or written.
func roomy(b []byte) []byte {
	whole := append(slices.Clone(b), bytes.Repeat([]byte{0xaa}, 200)...)
	return slices.Clip(whole)[:len(b)]
}

// roomyNode is n, all that it has with room behind it: cells that would be in order, pages, bytes.
func roomyNode(n api.Node) api.Node {
	var cells []api.Cell
	for _, c := range n.Cells {
		cells = append(cells, api.Cell{Key: roomy(c.Key), Val: roomy(c.Val), Over: c.Over, Long: c.Long})
	}
	for i := range 3 {
		cells = append(cells, api.Cell{Key: roomy(bytes.Repeat([]byte{255}, 100+i))})
	}
	kids := append(slices.Clone(n.Kids), 7, 8, 9)
	return api.Node{Leaf: n.Leaf, Cells: slices.Clip(cells)[:len(n.Cells)], Kids: slices.Clip(kids)[:len(n.Kids)]}
}

// whole is n with all room behind it as if that were part of it, as a text.
func whole(n api.Node) string {
	all := api.Node{Leaf: n.Leaf, Kids: n.Kids[:cap(n.Kids)]}
	for _, c := range n.Cells[:cap(n.Cells)] {
		c.Key, c.Val = c.Key[:cap(c.Key)], c.Val[:cap(c.Val)]
		all.Cells = append(all.Cells, c)
	}
	return shown(all)
}

// spoil changes all of b, spare room included.
func spoil(b []byte) {
	b = b[:cap(b)]
	for i := range b {
		b[i] ^= 0x55
	}
}

// spoilNode changes all that n has, spare room included.
func spoilNode(n api.Node) {
	cells, kids := n.Cells[:cap(n.Cells)], n.Kids[:cap(n.Kids)]
	for i := range cells {
		spoil(cells[i].Key)
		spoil(cells[i].Val)
		cells[i] = api.Cell{Key: []byte("spoilt"), Over: -7, Long: -8}
	}
	for i := range kids {
		kids[i] = -9
	}
}

// anyNodes are nodes that are right, and nodes that aren't, or don't fit.
func anyNodes() []api.Node {
	return append(some(), api.Node{}, leafOf(near("b", "v"), near("a", "v")), leafOf(near("", "v")), leafOf(near("k", strings.Repeat("v", 65))), leafOf(api.Cell{Key: []byte("k"), Val: []byte("v"), Over: 5, Long: 300}), innerOf(0, "k"), innerOf(5, "l", "k"), leafOf(manyCells(127)...), innerOf(5, manyKeys(120)...), api.Node{Leaf: true, Kids: []int{5, 6}}, api.Node{Cells: []api.Cell{bare("k")}, Kids: []int{5}})
}

// R4: nodes and keys that are handed in stay as they were, spare room included; and what stands in that room is no part of them.
func TestNodesStay(t *testing.T) {
	for _, n := range anyNodes() {
		in, other, key := roomyNode(n), roomyNode(n), roomy([]byte("k"))
		before, same := whole(in), whole(other)
		for range 2 {
			asModel(t, "by what is behind", in)
			if !Same(in, other) || !Same(in, n) {
				t.Errorf("%s isn't the same as itself", brief(n))
			}
			at, is := Find(in, key)
			if want, wanted := place(n, "k"); at != want || is != wanted {
				t.Errorf("Find(%s): by what is behind %d, %v, wanted %d, %v", brief(n), at, is, want, wanted)
			}
			b, _ := Put(in)
			spoil(b)
		}
		if whole(in) != before || whole(other) != same || string(key[:cap(key)]) != "k"+strings.Repeat("\xaa", cap(key)-1) {
			t.Errorf("%s changed", brief(n))
		}
	}
}

// R4: bytes that are handed in stay as they were, spare room included, be they a node or not; and what stands in that room is no part of them.
func TestBytesStay(t *testing.T) {
	for _, n := range anyNodes() {
		l := laid(n)
		for _, b := range [][]byte{l, l[:len(l)-1], l[:1], l[1:], append(bytes.Clone(l), 0, 0, 0), append(bytes.Clone(l), 0, 0, 1)} {
			in := roomy(b)
			before := bytes.Clone(in[:cap(in)])
			for range 2 {
				getsAsModel(t, "by what is behind", in)
				got, _ := Get(in)
				spoilNode(got)
			}
			if !bytes.Equal(in[:cap(in)], before) {
				t.Errorf("Get(%x) changed it", b)
			}
		}
	}
}

// R4: what is handed in may change behind the call without changing what was answered.
func TestArgumentsAreNotKept(t *testing.T) {
	for _, n := range some() {
		want := laid(n)
		in := roomyNode(n)
		b, e := Put(in)
		spoilNode(in)
		if e != api.OK || !bytes.Equal(b, want) {
			t.Errorf("Put(%s): became %x, %v", brief(n), b, e)
		}
		raw := roomy(want)
		got, e := Get(raw)
		spoil(raw)
		if e != api.OK || shown(got) != shown(n) {
			t.Errorf("Get(%x): became %s, %v", want, brief(got), e)
		}
	}
}

// R4: what is answered is nobody else's: what is done with it, spare room included, bears on no other answer, and on no argument.
func TestAnswersAreNew(t *testing.T) {
	for _, n := range some() {
		want := laid(n)
		b, _ := Put(n)
		c, _ := Put(n)
		got, _ := Get(b)
		other, _ := Get(b)
		spoil(c)
		spoilNode(other)
		if !bytes.Equal(b, want) || shown(got) != shown(n) {
			t.Errorf("%s became %x, and %s", brief(n), b, brief(got))
		}
		spoil(b)
		if shown(got) != shown(n) {
			t.Errorf("%s became %s", brief(n), brief(got))
		}
		again, _ := Put(n)
		spoilNode(got)
		if !bytes.Equal(again, want) {
			t.Errorf("%s became %x", brief(n), again)
		}
		asModel(t, "behind all that", n)
	}
}

// R4: no two lists that are got share memory, spare room included: each key and each value stands for itself.
func TestPartsAreApart(t *testing.T) {
	for _, n := range some() {
		for at := range n.Cells {
			for _, part := range []func(c *api.Cell) *[]byte{func(c *api.Cell) *[]byte { return &c.Key }, func(c *api.Cell) *[]byte { return &c.Val }} {
				got, _ := Get(append(laid(n), 0, 0, 0))
				b := part(&got.Cells[at])
				_ = append(*b, "appended"...)
				spoil(*b)
				*b = slices.Clone(*part(&n.Cells[at]))
				if shown(got) != shown(n) {
					t.Errorf("cell %d of %s changed others: %s", at, brief(n), brief(got))
				}
			}
		}
		got, _ := Get(laid(n))
		_, _ = append(got.Cells, api.Cell{Key: []byte("z")}), append(got.Kids, 5)
		if shown(got) != shown(n) {
			t.Errorf("%s became %s", brief(n), brief(got))
		}
	}
}

// R5: the same again, whatever was asked for in between, errors too.
func TestSameAgain(t *testing.T) {
	list := anyNodes()
	for range 20 {
		for _, n := range list {
			asModel(t, "again", n)
			getsAsModel(t, "again", laid(n))
			getsNot(t, "in between", laid(n)[1:2])
			isWrong(t, "in between", innerOf(0))
			finds(t, n, "k")
			asModel(t, "again", n)
		}
	}
}

// R5: several may be put, got and looked through at once, from the same nodes and bytes, too.
func TestAtOnce(t *testing.T) {
	list := anyNodes()
	var every sync.WaitGroup
	for range 8 {
		every.Go(func() {
			for range 20 {
				for _, n := range list {
					asModel(t, "at once", n)
					getsAsModel(t, "at once", laid(n))
					finds(t, n, "k")
					if !Same(n, n) {
						t.Errorf("%s isn't the same as itself", brief(n))
					}
				}
			}
		})
	}
	every.Wait()
}
