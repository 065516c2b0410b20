package node

import (
	"slices"

	"inquest/api"
	"inquest/word"
)

// What a node begins with.
const (
	leafMark  = 1
	innerMark = 2
)

// In how many bytes stand what a node begins with, how many cells it has, a key's length, a value's, and a page.
const (
	markWide = 1
	manyWide = 2
	keyWide  = 1
	valWide  = 2
	pageWide = 3
)

// size is how many bytes the node has, which must be right.
func size(n api.Node) int {
	sum := markWide + manyWide + pageWide*len(n.Kids)
	for _, c := range n.Cells {
		sum += keyWide + len(c.Key)
		if n.Leaf {
			sum += valWide + valueSize(c)
		}
	}
	return sum
}

// valueSize is how many bytes stand in a leaf for the cell's value, behind its length.
func valueSize(c api.Cell) int {
	if isFar(c) {
		return pageWide
	}
	return len(c.Val)
}

// isFar tells whether the value of the cell, which must be right, stands elsewhere.
func isFar(c api.Cell) bool { return c.Long > 0 }

// stands is the bytes of the node, which must be right.
func stands(n api.Node) []byte {
	if n.Leaf {
		return leafBytes(n.Cells)
	}
	return innerBytes(n.Cells, n.Kids)
}

// leafBytes is the bytes of the leaf that has these cells.
func leafBytes(l []api.Cell) []byte {
	b := begin(leafMark, len(l))
	for _, c := range l {
		b = slices.Concat(b, keyBytes(c), valueBytes(c))
	}
	return b
}

// innerBytes is the bytes of the inner node that has these keys, and these children.
func innerBytes(l []api.Cell, kids []int) []byte {
	b := word.Put(begin(innerMark, len(l)), pageWide, kids[0])
	for i, c := range l {
		b = slices.Concat(b, keyBytes(c), word.Put(nil, pageWide, kids[i+1]))
	}
	return b
}

// begin is what stands ahead of so many cells, of a leaf, or of the first child.
func begin(mark, many int) []byte {
	return word.Put(word.Put(nil, markWide, mark), manyWide, many)
}

// keyBytes is how the cell's key stands.
func keyBytes(c api.Cell) []byte {
	return append(word.Put(nil, keyWide, len(c.Key)), c.Key...)
}

// valueBytes is how the cell's value stands in a leaf.
func valueBytes(c api.Cell) []byte {
	if isFar(c) {
		return word.Put(word.Put(nil, valWide, c.Long), pageWide, c.Over)
	}
	return append(word.Put(nil, valWide, len(c.Val)), c.Val...)
}
