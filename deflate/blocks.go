package deflate

import (
	"slices"

	"inquest/bits"
	"inquest/huff"
)

const (
	// mostSymbols and mostDistances are how many may have codes, longestCode is how long these are at the most.
	mostSymbols   = lastCopy + 1
	mostDistances = 30
	longestCode   = 15
	// leastSymbols and leastDistances are how many lengths are told at least.
	leastSymbols   = theEnd + 1
	leastDistances = 1
)

// fixed is a block of kind 1 of these steps.
func fixed(steps []step) []byte {
	w := begun(Fixed)
	symbols, _ := huff.New(slices.Concat(times(144, 8), times(112, 9), times(24, 7), times(8, 8))...)
	distances, _ := huff.New(times(mostDistances, 5)...)
	return ended(w, steps, symbols, distances)
}

// times are so many lengths, all alike.
func times(many, length int) []int { return slices.Repeat([]int{length}, many) }

// dynamic is a block of kind 2 of these steps.
func dynamic(steps []step) []byte {
	w := begun(Dynamic)
	symbolCounts, distanceCounts := counts(steps)
	symbolLengths := trimmed(huff.Lengths(symbolCounts[:], longestCode), leastSymbols)
	distanceLengths := trimmed(huff.Lengths(distanceCounts[:], longestCode), leastDistances)
	w.Bits(5, len(symbolLengths)-leastSymbols)
	w.Bits(5, len(distanceLengths)-leastDistances)
	writeLengths(w, slices.Concat(symbolLengths, distanceLengths))
	symbols, _ := huff.New(symbolLengths...)
	distances, _ := huff.New(distanceLengths...)
	return ended(w, steps, symbols, distances)
}

// counts are how often each symbol comes, and each distance.
func counts(steps []step) ([mostSymbols]int, [mostDistances]int) {
	var symbols [mostSymbols]int
	var distances [mostDistances]int
	for _, s := range steps {
		symbol, _, _ := s.symbol()
		symbols[symbol]++
		if s.back > 0 {
			distance, _, _ := s.distance()
			distances[distance]++
		}
	}
	// A code of the end alone would be short, so another symbol has one, too.
	if len(steps) == 1 {
		symbols[0]++
	}
	return symbols, distances
}

// trimmed are the lengths up to the last one that isn't 0, but so many at least.
func trimmed(lengths []int, least int) []int {
	many := len(lengths)
	for many > least && lengths[many-1] == 0 {
		many--
	}
	return lengths[:many]
}

// begun is a last block's beginning, of this kind.
func begun(kind int) *bits.Writer {
	w := bits.Write()
	w.Bits(1, 1)
	w.Bits(2, kind)
	return w
}

// ended is the block with these steps behind what was written.
func ended(w *bits.Writer, steps []step, symbols, distances *huff.Code) []byte {
	write := writing(w, symbols, distances)
	for _, s := range steps {
		write(s)
	}
	return w.Bytes()
}

// writing is the function that writes a step by these codes.
func writing(w *bits.Writer, symbols, distances *huff.Code) func(s step) {
	return func(s step) {
		symbol, own, v := s.symbol()
		w.Code(symbols.Code(symbol))
		w.Bits(own, v)
		if s.back > 0 {
			distance, own, v := s.distance()
			w.Code(distances.Code(distance))
			w.Bits(own, v)
		}
	}
}
