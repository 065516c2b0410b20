package pager

import (
	"maps"
	"slices"
)

// mostKept is how many pages are kept.
const mostKept = 16

// shelf has the pages that were read, and not changed, and counts what was read from the file.
type shelf struct {
	pages map[int]block
	// order has their numbers, the one that was asked for longest ago first.
	order []int
	reads int
}

func newShelf() shelf { return shelf{pages: map[int]block{}} }

// copied is the shelf as it is now, whatever becomes of it.
func (s *shelf) copied() shelf {
	return shelf{pages: maps.Clone(s.pages), order: slices.Clone(s.order), reads: s.reads}
}

// count counts a page that was read from the file, if it was.
func (s *shelf) count(read bool) {
	if read {
		s.reads++
	}
}

// keep keeps the page, as the one that was asked for last.
func (s *shelf) keep(no int, b block) {
	s.drop(no)
	if len(s.order) == mostKept {
		s.drop(s.order[0])
	}
	s.pages[no] = b
	s.order = append(s.order, no)
}

// drop keeps the page no longer, if it was kept.
func (s *shelf) drop(no int) {
	if i := slices.Index(s.order, no); i >= 0 {
		s.order = slices.Delete(s.order, i, i+1)
		delete(s.pages, no)
	}
}

// numbers are the numbers of the pages, rising.
func numbers(pages map[int]block) []int {
	var l []int
	for no := range pages {
		l = append(l, no)
	}
	slices.Sort(l)
	return l
}
