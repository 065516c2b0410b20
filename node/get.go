package node

import (
	"slices"

	"inquest/api"
	"inquest/word"
)

// reader takes what stands in b, one behind the other. Beyond the end it goes on, but what it takes there is 0, and no bytes.
type reader struct {
	b  []byte
	at int
}

// ended tells whether more was taken than there is.
func (r *reader) ended() bool { return r.at > len(r.b) }

// number takes the number that stands in w bytes.
func (r *reader) number(w int) int {
	n, _ := word.Get(r.b, r.at, w)
	r.at += w
	return n
}

// bytes takes so many bytes, as a copy.
func (r *reader) bytes(n int) []byte {
	b, _ := word.Cut(r.b, r.at, n)
	r.at += n
	return b
}

// node takes a node, whether it is right or not; behind another mark it is one that has nothing, which isn't.
func (r *reader) node() api.Node {
	switch r.number(markWide) {
	case leafMark:
		return r.leaf()
	case innerMark:
		return r.inner()
	}
	return api.Node{}
}

// leaf takes a leaf, behind its mark.
func (r *reader) leaf() api.Node {
	n := api.Node{Leaf: true}
	for many := r.number(manyWide); len(n.Cells) < many && !r.ended(); {
		n.Cells = append(n.Cells, r.cell())
	}
	return n
}

// cell takes a leaf's cell.
func (r *reader) cell() api.Cell {
	c := api.Cell{Key: r.key()}
	long := r.number(valWide)
	if long <= mostNear {
		c.Val = r.bytes(long)
		return c
	}
	c.Long, c.Over = long, r.number(pageWide)
	return c
}

// inner takes an inner node, behind its mark.
func (r *reader) inner() api.Node {
	many := r.number(manyWide)
	n := api.Node{Kids: []int{r.number(pageWide)}}
	for len(n.Cells) < many && !r.ended() {
		n.Cells = append(n.Cells, api.Cell{Key: r.key()})
		n.Kids = append(n.Kids, r.number(pageWide))
	}
	return n
}

// key takes a key, and its length ahead of it.
func (r *reader) key() []byte { return r.bytes(r.number(keyWide)) }

// zeros tells whether b has nothing else.
func zeros(b []byte) bool {
	return !slices.ContainsFunc(b, func(x byte) bool { return x != 0 })
}
