package huff

import (
	"math"
	"math/rand"
	"slices"
	"strconv"
	"strings"
	"testing"

	"inquest/api"
	"inquest/bits"
)

var extremes = []int{math.MinInt, math.MinInt + 1, -1 << 32, -256, -16, -15, -2, -1, 0, 1, 2, 3, 14, 15, 16, 17, 31, 32, 33,
	63, 64, 65, 255, 256, 319, 320, 321, 1<<15 - 1, 1 << 15, 1<<31 - 1, 1 << 31, 1<<32 - 1, 1 << 32, math.MaxInt - 1, math.MaxInt}

// told are the codes of these lengths as texts of 0 and 1 (none where the length is 0), told anew by RFC 1951, 3.2.2; a code that doesn't fit has more digits than its length.
func told(lengths []int) []string {
	out := make([]string, len(lengths))
	next := 0
	for n := 1; n <= 15; n++ {
		next *= 2
		for s, l := range lengths {
			if l == n {
				out[s] = digits(next, n)
				next++
			}
		}
	}
	return out
}

// digits is v as at least n digits of 0 and 1.
func digits(v, n int) string {
	s := strconv.FormatInt(int64(v), 2)
	return strings.Repeat("0", max(0, n-len(s))) + s
}

// fill is how the lengths are filled, found by cutting all texts in half till each one begins with a code.
func fill(lengths []int) int {
	codes := told(lengths)
	for s, c := range codes {
		if len(c) > lengths[s] {
			return Over
		}
	}
	if covered(codes, "") {
		return Whole
	}
	return Short
}

// covered tells whether each text that begins with head begins a code, or begins with one.
func covered(codes []string, head string) bool {
	if slices.Contains(codes, head) && head != "" {
		return true
	}
	if !slices.ContainsFunc(codes, func(c string) bool { return c != "" && strings.HasPrefix(c, head) }) {
		return false
	}
	return covered(codes, head+"0") && covered(codes, head+"1")
}

// nextOf is what comes next of a text of 0 and 1: whose code, of how many bits, or which error.
func nextOf(codes []string, text string) (int, int, api.Errno) {
	text = text[:min(15, len(text))]
	begun := false
	for s, c := range codes {
		if c != "" && strings.HasPrefix(text, c) {
			return s, len(c), api.OK
		}
		begun = begun || c != "" && strings.HasPrefix(c, text)
	}
	if begun {
		return 0, 0, api.ErrEnd
	}
	return 0, 0, api.ErrData
}

// reader has just the bits of the text left, behind others that are taken.
func reader(text string) *bits.Reader {
	w := bits.Write()
	ahead := -len(text) & 7
	w.Bits(ahead, 0x5a)
	for _, x := range text {
		w.Bits(1, int(x-'0'))
	}
	r := bits.Read(w.Bytes())
	r.Bits(ahead)
	return r
}

// made are the codes of these lengths, which are right.
func made(t *testing.T, lengths ...int) *Code {
	t.Helper()
	c, e := New(lengths...)
	if e != api.OK || c == nil {
		t.Fatalf("%v: %v, wanted codes", lengths, e)
	}
	return c
}

// sameCodes tells whether all that Fill and Code tell is as the model has it.
func sameCodes(t *testing.T, c *Code, lengths []int) {
	t.Helper()
	if c.Fill() != fill(lengths) {
		t.Errorf("%v: Fill is %d, wanted %d", lengths, c.Fill(), fill(lengths))
	}
	for s, want := range told(lengths) {
		n, code := c.Code(s)
		if n != lengths[s] || n == 0 && code != 0 || n > 0 && digits(code, n) != want {
			t.Errorf("%v: the code of %d: %d bits of %b, wanted %s", lengths, s, n, code, want)
		}
	}
	for _, s := range append([]int{len(lengths), len(lengths) + 1}, extremes...) {
		if n, code := c.Code(s); (s < 0 || s >= len(lengths)) && (n != 0 || code != 0) {
			t.Errorf("%v: the code of %d, which isn't: %d %b", lengths, s, n, code)
		}
	}
}

// sameNext tells whether what comes next of a text is as the model has it, and whether just that was taken.
func sameNext(t *testing.T, c *Code, codes []string, text string) {
	t.Helper()
	r := reader(text)
	mark := r.Mark()
	want, long, so := nextOf(codes, text)
	if s, e := c.Next(r); s != want || e != so || r.Mark() != mark+long || r.Left() != len(text)-long {
		t.Errorf("%v: the next of %q: %d %v, %d bits taken, wanted %d %v, %d bits", codes, text, s, e, r.Mark()-mark, want, so, long)
	}
}

// lists are all lists of so many lengths, each from 0 to most.
func lists(many, most int) [][]int {
	out := [][]int{nil}
	for range many {
		var longer [][]int
		for _, l := range out {
			for n := range most + 1 {
				longer = append(longer, append(slices.Clone(l), n))
			}
		}
		out = longer
	}
	return out
}

// wholeOf are lengths of so many symbols (2 at least) that are whole, cut anew by chance.
func wholeOf(x *rand.Rand, many int) []int {
	l := []int{1, 1}
	for len(l) < many {
		if i := x.Intn(len(l)); l[i] < 15 {
			l[i]++
			l = append(l, l[i])
		}
	}
	x.Shuffle(len(l), func(i, j int) { l[i], l[j] = l[j], l[i] })
	return l
}

// times is the same number, so many times.
func times(many, n int) []int { return slices.Repeat([]int{n}, many) }

// stairs are the lengths 1, 2 .. up to most, each once.
func stairs(most int) []int {
	var l []int
	for n := range most {
		l = append(l, n+1)
	}
	return l
}
