package huff

import (
	"math"
	"math/rand"
	"slices"
	"testing"

	"inquest/api"
)

// come is how many symbols come.
func come(counts []int) int {
	n := 0
	for _, x := range counts {
		if x > 0 {
			n++
		}
	}
	return n
}

// rightLengths tells whether lengths are all that P5.3 asks for, where there are any.
func rightLengths(t *testing.T, counts []int, most int) []int {
	t.Helper()
	l := Lengths(counts, most)
	most = max(1, min(most, 15))
	if len(l) != len(counts) {
		t.Fatalf("%v, most %d: %v", counts, most, l)
	}
	for s, n := range l {
		if n < 0 || n > most || (n > 0) != (counts[s] > 0) {
			t.Fatalf("%v, most %d: %v: %d has %d", counts, most, l, s, n)
		}
		for other, m := range l {
			if m > 0 && counts[s] > counts[other] && n > m {
				t.Fatalf("%v, most %d: %v: %d comes more often than %d", counts, most, l, s, other)
			}
		}
	}
	c, e := New(l...)
	switch come(counts) {
	case 0:
		if slices.Contains(l, 1) || e != api.OK {
			t.Fatalf("%v, most %d: %v: %v, and none comes", counts, most, l, e)
		}
	case 1:
		if slices.Max(l) != 1 || e != api.OK {
			t.Fatalf("%v, most %d: %v: %v, and one comes", counts, most, l, e)
		}
	default:
		if e != api.OK || c.Fill() != Whole {
			t.Fatalf("%v, most %d: %v: %v, they aren't whole", counts, most, l, e)
		}
	}
	return l
}

// P5.3: lengths that can't be others (or where only those of the symbols that come equally often could be).
func TestKnownLengths(t *testing.T) {
	for _, c := range []struct {
		counts []int
		most   int
		want   []int
	}{
		{[]int{5, 0, 1, 1, 2}, 15, []int{1, 0, 3, 3, 2}},
		{[]int{5, 0, 1, 1, 2}, 3, []int{1, 0, 3, 3, 2}},
		{[]int{5, 0, 1, 1, 2}, 2, []int{2, 0, 2, 2, 2}},
		{[]int{0, 7}, 15, []int{0, 1}},
		{[]int{1, 0}, 1, []int{1, 0}},
		{[]int{-3, 1, 0, 1}, 15, []int{0, 1, 0, 1}},
		{[]int{100, 1}, 1, []int{1, 1}},
		{[]int{8, 4, 2, 1, 1}, 15, []int{1, 2, 3, 4, 4}},
		{[]int{8, 4, 2, 1, 1}, 3, nil},
		{[]int{1, 1, 1, 1}, 15, []int{2, 2, 2, 2}},
		{nil, 15, nil},
		{[]int{0, 0, 0}, 15, []int{0, 0, 0}},
		{[]int{0, -1, math.MinInt}, 1, []int{0, 0, 0}},
		{[]int{math.MaxInt}, 1, []int{1}},
		{[]int{1, 2, 4, 8, 16, 32, 64, 128}, 3, times(8, 3)},
		{[]int{1, 2, 4, 8, 16, 32, 64, 128}, 15, []int{7, 7, 6, 5, 4, 3, 2, 1}},
	} {
		l := rightLengths(t, c.counts, c.most)
		if c.want != nil && !slices.Equal(l, c.want) {
			t.Errorf("%v, most %d: %v, wanted %v", c.counts, c.most, l, c.want)
		}
	}
}

// P5.3: of up to five symbols, that come up to four times each, lengths are right, whatever the most is.
func TestLengthsOfAllCounts(t *testing.T) {
	for many := range 6 {
		for _, counts := range lists(many, 4) {
			for most := 1; most <= 5; most++ {
				if come(counts) <= 1<<most {
					rightLengths(t, counts, most)
				} else if l := Lengths(counts, most); l != nil {
					t.Errorf("%v, most %d: %v, wanted nil", counts, most, l)
				}
			}
		}
	}
}

// P5.3: counts below 0 are as 0.
func TestCountsBelow0(t *testing.T) {
	x := rand.New(rand.NewSource(4))
	for range 200 {
		counts := make([]int, 1+x.Intn(320))
		for i := range counts {
			counts[i] = x.Intn(20)
		}
		want := Lengths(counts, 15)
		for i, n := range counts {
			if n == 0 {
				counts[i] = []int{-1, 0, -100, math.MinInt}[x.Intn(4)]
			}
		}
		if l := rightLengths(t, counts, 15); !slices.Equal(l, want) {
			t.Errorf("%v: %v, wanted %v", counts, l, want)
		}
	}
}

// P5.3: most is held within 1 to 15.
func TestMostIsHeld(t *testing.T) {
	rare := make([]int, 40)
	rare[0], rare[1] = 1, 1
	for i := 2; i < len(rare); i++ {
		rare[i] = rare[i-1] + rare[i-2]
	}
	for _, most := range extremes {
		held := max(1, min(most, 15))
		for _, counts := range [][]int{{1, 0, 3}, {1, 2, 3}, rare, rare[:16], rare[:17], nil, {9}} {
			want := Lengths(counts, held)
			if l := Lengths(counts, most); !slices.Equal(l, want) || (l == nil) != (want == nil) {
				t.Errorf("%v, most %d: %v, wanted %v", counts, most, l, want)
			}
			if come(counts) <= 1<<held {
				rightLengths(t, counts, most)
			}
		}
	}
	if l := rightLengths(t, rare, 99); slices.Max(l) != 15 {
		t.Errorf("the longest may have 15: %v", l)
	}
	if l := rightLengths(t, rare[:16], 15); l[0] != 15 || l[1] != 15 {
		t.Errorf("two need 15: %v", l)
	}
	if l := Lengths([]int{1, 2, 3}, -7); l != nil {
		t.Errorf("three of one bit: %v", l)
	}
}

// P5.3: as many that come as there are codes of the greatest length all have it; of one more there is nothing. Those that don't come aren't counted.
func TestAsManyAsThereAre(t *testing.T) {
	x := rand.New(rand.NewSource(5))
	for most := 1; most <= 8; most++ {
		counts := make([]int, 1<<most)
		for i := range counts {
			counts[i] = 1 + x.Intn(1<<(i%50))
		}
		if l := rightLengths(t, counts, most); !slices.Equal(l, times(1<<most, most)) {
			t.Errorf("most %d: %v", most, l)
		}
		counts = append(counts, 0, -5)
		if l := rightLengths(t, counts, most); !slices.Equal(l, append(times(1<<most, most), 0, 0)) {
			t.Errorf("most %d: %v", most, l)
		}
		rightLengths(t, counts[1:], most)
		rightLengths(t, counts[:len(counts)/2+1], most)
		counts[len(counts)-1] = 1
		if l := Lengths(counts, most); l != nil {
			t.Errorf("most %d, and one more: %v", most, l)
		}
		rightLengths(t, counts, most+1)
	}
}

// P5.3: of 320 symbols there are lengths, of more there is nothing, however few of them come.
func TestHowManyCounts(t *testing.T) {
	for _, n := range []int{-1, 0, 1, 1000, math.MaxInt} {
		for most := 9; most <= 15; most++ {
			rightLengths(t, times(320, n), most)
		}
		if n > 0 {
			if l := Lengths(times(320, n), 8); l != nil {
				t.Errorf("320 codes of 8 bits: %v", l)
			}
		}
		for _, many := range []int{321, 322, 1000, 1 << 16} {
			if l := Lengths(times(many, n), 15); l != nil {
				t.Errorf("%d counts of %d: %v", many, n, l)
			}
		}
	}
	counts := make([]int, 321)
	counts[320] = 1
	if l := Lengths(counts, 15); l != nil {
		t.Errorf("the last of 321: %v", l)
	}
	if l := rightLengths(t, counts[1:], 15); l[319] != 1 {
		t.Errorf("the last of 320: %v", l)
	}
}

// P5.3: lengths are right of counts of all kinds: even ones, steep ones, those that are as great as an int holds.
func TestLengthsByChance(t *testing.T) {
	x := rand.New(rand.NewSource(6))
	kinds := []func() int{
		func() int { return x.Intn(3) },
		func() int { return 1 + x.Intn(1000) },
		func() int { return 1 << x.Intn(63) },
		func() int { return math.MaxInt - x.Intn(3) },
		func() int { return x.Int() },
		func() int { return extremes[x.Intn(len(extremes))] },
		func() int { return x.Intn(1<<x.Intn(62)+1) - 1 },
	}
	for i := range 600 {
		counts := make([]int, x.Intn(321))
		for s := range counts {
			counts[s] = kinds[i%len(kinds)]()
		}
		least := 1
		for 1<<least < come(counts) {
			least++
		}
		for _, most := range []int{least, least + 1, least + x.Intn(15), 15} {
			rightLengths(t, counts, most)
		}
	}
}

// P5.3: lengths are made for what comes so often: no others, within the most, write fewer bits.
func TestLengthsAreGood(t *testing.T) {
	x := rand.New(rand.NewSource(7))
	for many := 2; many <= 6; many++ {
		all := lists(many, 5)
		for range 40 {
			counts := make([]int, many)
			for s := range counts {
				counts[s] = 1 + x.Intn(1<<x.Intn(10))
			}
			for most := 3; most <= 5; most++ {
				got := cost(counts, rightLengths(t, counts, most))
				for _, l := range all {
					if slices.Min(l) > 0 && slices.Max(l) <= most && cost(counts, l) < got && fits(l) {
						t.Fatalf("%v, most %d: %d bits, but %v makes %d", counts, most, got, l, cost(counts, l))
					}
				}
			}
		}
	}
}

// cost is how many bits so many symbols have in codes of these lengths.
func cost(counts, lengths []int) int {
	n := 0
	for s, x := range counts {
		n += x * lengths[s]
	}
	return n
}

// fits tells whether there are codes of these lengths.
func fits(lengths []int) bool {
	n := 0
	for _, x := range lengths {
		n += 1 << (15 - x)
	}
	return n <= 1<<15
}
