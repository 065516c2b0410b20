package huff

import (
	"cmp"
	"math"
	"slices"
)

// item is a symbol, or a pair of items of the level behind, and how often it comes.
type item struct {
	often int
	pair  bool
}

// Lengths are lengths of codes for symbols that come so often, none longer than most.
//
// A symbol is taken once on each level from the first one on, as many levels as its code has bits. What is cheapest on a
// level is what is taken there; a pair that is taken takes its two items on the next level (package-merge: there are no
// lengths within most by which fewer bits are written).
func Lengths(counts []int, most int) []int {
	most = max(1, min(most, longest))
	symbols := coming(counts)
	if len(counts) > mostSymbols || len(symbols) > 1<<most {
		return nil
	}
	lengths := make([]int, len(counts))
	if len(symbols) < 2 {
		for _, symbol := range symbols {
			lengths[symbol] = 1
		}
		return lengths
	}
	levels := levelsOf(symbols, counts, most)
	// An item of the i-th level is worth 1/2^i, and a pair just what its items are on the next one: so all that is taken
	// is worth one less than there are symbols. A code's bits are worth 1 less its share of the texts: the shares are 1 in all.
	take := 2*len(symbols) - 2
	for _, level := range levels[:most] {
		single := singles(level[:take])
		for _, symbol := range symbols[:single] {
			lengths[symbol]++
		}
		take = 2 * (take - single)
	}
	return lengths
}

// coming are the symbols that come, the rarest first.
func coming(counts []int) []int {
	var symbols []int
	for symbol, often := range counts {
		if often > 0 {
			symbols = append(symbols, symbol)
		}
	}
	slices.SortStableFunc(symbols, func(a, b int) int { return cmp.Compare(counts[a], counts[b]) })
	return symbols
}

// levelsOf are the levels' items, each level's from the rarest on.
func levelsOf(symbols, counts []int, most int) [longest][]item {
	var levels [longest][]item
	var pairs []item
	for i := most - 1; i >= 0; i-- {
		levels[i] = merged(symbols, counts, pairs)
		pairs = paired(levels[i])
	}
	return levels
}

// merged are the symbols and the pairs, from the rarest on. Of what comes equally often the symbols are ahead: a symbol
// that is taken in a pair has then been taken on the level of that pair.
func merged(symbols, counts []int, pairs []item) []item {
	out := make([]item, 0, len(symbols)+len(pairs))
	for _, symbol := range symbols {
		for len(pairs) > 0 && pairs[0].often < counts[symbol] {
			out = append(out, pairs[0])
			pairs = pairs[1:]
		}
		out = append(out, item{often: counts[symbol]})
	}
	return append(out, pairs...)
}

// paired are the items, two and two; one that is left over is in none.
func paired(l []item) []item {
	var pairs []item
	for ; len(l) > 1; l = l[2:] {
		pairs = append(pairs, item{together(l[0].often, l[1].often), true})
	}
	return pairs
}

// together is the sum of both, but never more than an int holds: the order of pairs stays right so.
func together(a, b int) int { return a + min(b, math.MaxInt-a) }

// singles is how many of these are symbols.
func singles(l []item) int {
	n := 0
	for _, x := range l {
		if !x.pair {
			n++
		}
	}
	return n
}
