package node

import (
	"math/rand"
	"slices"
	"testing"

	"inquest/api"
)

// changes are ways to let a node be another one, each in one thing alone.
func changes() []func(n *api.Node) {
	l := []func(n *api.Node){
		func(n *api.Node) {},
		func(n *api.Node) { n.Leaf = !n.Leaf },
		func(n *api.Node) { n.Cells = append(n.Cells, near("z", "")) },
		func(n *api.Node) { n.Cells = append(n.Cells, near("z", ""), near("zz", "")) },
		func(n *api.Node) { n.Cells = append(n.Cells, api.Cell{}) },
		func(n *api.Node) { n.Kids = append(n.Kids, 0) },
		func(n *api.Node) { n.Kids = append(n.Kids, 5) },
		func(n *api.Node) { n.Kids = append(n.Kids, 5, 6) },
		func(n *api.Node) { n.Kids = slices.Insert(n.Kids, 0, 7) },
	}
	for at := range 3 {
		l = append(l,
			func(n *api.Node) { n.Cells = slices.Delete(n.Cells, at, at+1) },
			func(n *api.Node) { n.Cells[at].Key = append(n.Cells[at].Key, 0) },
			func(n *api.Node) { n.Cells[at].Key = append([]byte{'x'}, n.Cells[at].Key...) },
			func(n *api.Node) { n.Cells[at].Key[0]++ },
			func(n *api.Node) { n.Cells[at].Key = nil },
			func(n *api.Node) { n.Cells[at].Val = append(n.Cells[at].Val, 0) },
			func(n *api.Node) { n.Cells[at].Val = append(n.Cells[at].Val, 'y') },
			func(n *api.Node) { n.Cells[at].Val = append([]byte{'u'}, n.Cells[at].Val...) },
			func(n *api.Node) { n.Cells[at].Over++ },
			func(n *api.Node) { n.Cells[at].Over -= 1 << 24 },
			func(n *api.Node) { n.Cells[at].Over += 1 << 62 },
			func(n *api.Node) { n.Cells[at].Long++ },
			func(n *api.Node) { n.Cells[at].Long -= 1 << 16 },
			func(n *api.Node) { n.Cells[at].Long += 1 << 62 },
			func(n *api.Node) { n.Cells[at].Over, n.Cells[at].Long = n.Cells[at].Over+3, n.Cells[at].Long+3 },
			func(n *api.Node) { n.Kids = slices.Delete(n.Kids, at, at+1) },
			func(n *api.Node) { n.Kids[at]++ },
			func(n *api.Node) { n.Kids[at] += 1 << 24 },
			func(n *api.Node) { n.Kids[at] = -n.Kids[at] },
		)
	}
	return l
}

// P18.2: two nodes are the same if all that they have is: each one thing that differs is told, wherever it is.
func TestSame(t *testing.T) {
	base := api.Node{Leaf: true, Cells: []api.Cell{near("ab", "vw"), far("b", 300, 500), near("c", "v")}, Kids: []int{10, 20, 30}}
	inner := api.Node{Cells: []api.Cell{bare("abc"), bare("k"), bare("l")}, Kids: []int{40, 50, 60, 70}}
	for _, n := range []api.Node{base, inner} {
		l := changes()
		for i, change := range l {
			for j, other := range l {
				a, b := copied(n), copied(n)
				change(&a)
				other(&b)
				want := shown(a) == shown(b)
				if want != (i == j) {
					t.Fatalf("changes %d and %d", i, j)
				}
				if Same(a, b) != want || Same(b, a) != want {
					t.Errorf("Same(%s, %s) isn't %v", brief(a), brief(b), want)
				}
			}
		}
	}
}

// P18.2: bytes that stand elsewhere in the same cell, or the same cells in another order, are another node.
func TestSameInParts(t *testing.T) {
	l := []api.Node{
		{},
		{Leaf: true},
		{Kids: []int{1}},
		{Leaf: true, Kids: []int{1}},
		{Kids: []int{1, 2}},
		{Kids: []int{2, 1}},
		{Kids: []int{0}},
		{Kids: []int{0, 0}},
		leafOf(api.Cell{}),
		leafOf(api.Cell{}, api.Cell{}),
		leafOf(near("ab", "")),
		leafOf(near("a", "b")),
		leafOf(near("", "ab")),
		leafOf(near("a", ""), near("b", "")),
		leafOf(near("b", ""), near("a", "")),
		leafOf(near("a", "b"), near("c", "")),
		leafOf(near("a", ""), near("b", "c")),
		leafOf(far("a", 1, 0)),
		leafOf(far("a", 0, 1)),
		leafOf(far("a", 1, 2)),
		leafOf(far("a", 2, 1)),
		{Cells: []api.Cell{bare("a")}},
		{Cells: []api.Cell{bare("a")}, Kids: []int{1}},
		innerOf(1, "a"),
		innerOf(1, "a", "b"),
		innerOf(1, "b", "a"),
	}
	for i, a := range l {
		for j, b := range l {
			if Same(a, b) != (i == j) {
				t.Errorf("Same(%s, %s)", brief(a), brief(b))
			}
		}
	}
}

// P18.2, R3: nil and empty are one: of cells, of children, of keys and of values.
func TestSameNilAndEmpty(t *testing.T) {
	for _, leaf := range []bool{true, false} {
		l := []api.Node{{Leaf: leaf}, {Leaf: leaf, Cells: []api.Cell{}}, {Leaf: leaf, Kids: []int{}}, {Leaf: leaf, Cells: make([]api.Cell, 0, 9), Kids: make([]int, 0, 9)}}
		m := []api.Node{{Leaf: leaf, Cells: []api.Cell{{}}}, {Leaf: leaf, Cells: []api.Cell{{Key: []byte{}}}}, {Leaf: leaf, Cells: []api.Cell{{Val: []byte{}}}, Kids: []int{}}, {Leaf: leaf, Cells: []api.Cell{{Key: make([]byte, 0, 9), Val: make([]byte, 0, 9)}}}}
		for i := range l {
			for j := range l {
				if !Same(l[i], l[j]) || !Same(m[i], m[j]) || Same(l[i], m[j]) || Same(m[i], l[j]) {
					t.Error(leaf, i, j)
				}
			}
		}
	}
}

// P18.2: drawn nodes are the same as their copies, and as no other one.
func TestSameDrawn(t *testing.T) {
	x := rand.New(rand.NewSource(7))
	last := leafOf()
	for range 5000 {
		n := drawn(x)
		if !Same(n, copied(n)) {
			t.Errorf("%s isn't the same as its copy", brief(n))
		}
		m := changed(x, copied(n))
		if want := shown(n) == shown(m); Same(n, m) != want || Same(m, n) != want {
			t.Errorf("Same(%s, %s) isn't %v", brief(n), brief(m), want)
		}
		if want := shown(n) == shown(last); Same(n, last) != want {
			t.Errorf("Same(%s, %s) isn't %v", brief(n), brief(last), want)
		}
		last = n
	}
}
