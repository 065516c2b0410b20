package node

import (
	"bytes"
	"slices"

	"inquest/api"
	"inquest/word"
)

const (
	// mostNear is how many bytes a value may have that stands with its key, mostFar one that stands elsewhere.
	mostNear = 64
	mostFar  = 20000
)

// Right tells whether the node is as it must be, but for its size.
func Right(n api.Node) bool {
	if !rightKeys(n.Cells) {
		return false
	}
	if n.Leaf {
		return len(n.Kids) == 0 && all(n.Cells, hasValue)
	}
	return len(n.Kids) == len(n.Cells)+1 && arePages(n.Kids...) && all(n.Cells, isBare)
}

// rightKeys tells whether all keys may be, and each is above the one ahead.
func rightKeys(l []api.Cell) bool {
	// An empty key may not be, so the first one must be above it, as if it stood ahead.
	var ahead []byte
	for _, c := range l {
		if len(c.Key) > api.MaxKey || bytes.Compare(ahead, c.Key) >= 0 {
			return false
		}
		ahead = c.Key
	}
	return true
}

// all tells whether each of the cells is so.
func all(l []api.Cell, is func(c api.Cell) bool) bool {
	return !slices.ContainsFunc(l, func(c api.Cell) bool { return !is(c) })
}

// hasValue tells whether the cell has a value that may be, here or elsewhere.
func hasValue(c api.Cell) bool {
	if c.Long == 0 {
		return c.Over == 0 && len(c.Val) <= mostNear
	}
	return mostNear < c.Long && c.Long <= mostFar && arePages(c.Over) && len(c.Val) == 0
}

// isBare tells whether the cell has nothing but its key.
func isBare(c api.Cell) bool { return len(c.Val) == 0 && c.Over == 0 && c.Long == 0 }

// arePages tells whether each number may be that of a page in a tree.
func arePages(numbers ...int) bool {
	return word.Fits(pageWide, numbers...) && !slices.Contains(numbers, 0)
}
