package deflate

import (
	"inquest/bits"
	"inquest/huff"
)

const (
	// repeat is the symbol, among those of lengths, that tells the length ahead of it again; the two above it tell few zeros, and many.
	repeat = 16
	// leastTold is how many lengths of the code of lengths are told at least, longestTold how long its codes are at the most.
	leastTold   = 4
	longestTold = 7
)

// order is in which order the lengths of the code of lengths are told.
var order = [19]int{16, 17, 18, 0, 8, 7, 9, 6, 10, 5, 11, 4, 12, 3, 13, 2, 14, 1, 15}

// part is a symbol that tells lengths, how many bits of its own it has, and these.
type part struct{ symbol, own, v int }

// writeLengths writes how many lengths the code of lengths has, these, and by that code all lengths.
func writeLengths(w *bits.Writer, lengths []int) {
	parts := partsOf(lengths)
	var counts [len(order)]int
	for _, p := range parts {
		counts[p.symbol]++
	}
	told := huff.Lengths(counts[:], longestTold)
	many := len(order)
	for many > leastTold && told[order[many-1]] == 0 {
		many--
	}
	w.Bits(4, many-leastTold)
	for i := range many {
		w.Bits(3, told[order[i]])
	}
	code, _ := huff.New(told...)
	for _, p := range parts {
		w.Code(code.Code(p.symbol))
		w.Bits(p.own, p.v)
	}
}

// partsOf are the parts that tell these lengths.
func partsOf(lengths []int) []part {
	var parts []part
	for at := 0; at < len(lengths); {
		same := alike(lengths[at:])
		// A length that is repeated stands once itself.
		if lengths[at] > 0 {
			parts = append(parts, part{symbol: lengths[at]})
			same--
			at++
		}
		for same > 0 {
			p, many := again(lengths[at], same)
			parts = append(parts, p)
			same -= many
			at += many
		}
	}
	return parts
}

// alike is how many lengths there are from the first one on that are like it.
func alike(lengths []int) int {
	many := 1
	for many < len(lengths) && lengths[many] == lengths[0] {
		many++
	}
	return many
}

// again is the part that tells as many as may be of so many lengths, all alike (and, but for zeros, one more ahead of them), and how many those are.
func again(length, same int) (part, int) {
	switch {
	case same < 3:
		return part{symbol: length}, 1
	case length > 0:
		many := min(same, 6)
		return part{repeat, 2, many - 3}, many
	case same < 11:
		return part{repeat + 1, 3, same - 3}, same
	}
	many := min(same, 138)
	return part{repeat + 2, 7, many - 11}, many
}
