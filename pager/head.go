package pager

import (
	"inquest/page"
	"inquest/word"
)

const (
	// mark is what page 0 begins with: 69 71 64 62.
	mark = "iqdb"
	// wide is in how many bytes a number stands; the mark has as many.
	wide = 4
	// mostPages is how many a pager may have.
	mostPages = 65536
)

// block is what a page has, its sum left out.
type block [page.Room]byte

// blockOf is b, which isn't longer, filled with zeros.
func blockOf(b []byte) block {
	var out block
	copy(out[:], b)
	return out
}

// number is the i-th number that stands in b, one behind the other.
func number(b block, i int) int {
	// It is there: none is asked for beyond the end.
	n, _ := word.Get(b[:], wide*i, wide)
	return n
}

// head is what page 0 tells: how many pages there are, the first free one, and the roots.
type head struct {
	many, first int
	roots       [8]int
}

// headOf is what page 0 tells with these bytes, whether that may be or not.
func headOf(b block) head {
	h := head{many: number(b, 1), first: number(b, 2)}
	for k := range h.roots {
		h.roots[k] = number(b, 3+k)
	}
	return h
}

// block is what page 0 has.
func (h head) block() block {
	b := word.Put([]byte(mark), wide, h.many, h.first)
	return blockOf(word.Put(b, wide, h.roots[:]...))
}

// has tells whether there is that page.
func (h head) has(no int) bool { return 0 <= no && no < h.many }

// hasRoot tells whether there is that root.
func (h head) hasRoot(k int) bool { return 0 <= k && k < len(h.roots) }

// right tells whether a pager may have that many pages, and all that are named are there.
func (h head) right() bool {
	if h.many > mostPages || !h.has(h.first) {
		return false
	}
	for _, no := range h.roots {
		if !h.has(no) {
			return false
		}
	}
	return true
}
