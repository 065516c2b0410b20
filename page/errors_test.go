package page

import (
	"bytes"
	"math"
	"testing"

	"inquest/api"
)

// beyond are numbers that a page may not have: some look like one that may be in their lowest bytes.
var beyond = []int{-1, -2, -5, -256, -1 << 23, -1<<24 + 5, -1 << 24, -1<<32 + 5, -1 << 62, math.MinInt, math.MinInt + 5, 1 << 24, 1<<24 + 1, 1<<24 + 5, 1<<25 - 1, 1<<31 - 1, 1 << 31, 1<<32 - 1, 1 << 32, 1<<32 + 5, 1<<40 + 5, 1<<56 + 5, 1 << 62, math.MaxInt}

// tooLong are bytes that a page has no room for.
var tooLong = [][]byte{make([]byte, 509), rising(509), rising(510), make([]byte, 511), make([]byte, 512), rising(513), rising(764), make([]byte, 1020), make([]byte, 65536), make([]byte, 65536+508), make([]byte, 1<<24)}

// P15.1: ErrArg: the number may not be. Those beside it may.
func TestErrArg(t *testing.T) {
	for _, no := range beyond {
		for _, b := range [][]byte{nil, {}, {1}, rising(507), rising(508)} {
			sealsNot(t, "a number that may not be", no, b, api.ErrArg)
			opensNot(t, "a number that may not be", no, stands(no, b), api.ErrArg)
			opensNot(t, "a number that may not be", no, stands(no&(1<<24-1), b), api.ErrArg)
		}
	}
	for _, no := range edges {
		asModel(t, no, []byte("a page"))
	}
}

// P15.1: ErrLong: more than 508 bytes, be they zeros alone.
func TestErrLong(t *testing.T) {
	for _, no := range edges {
		for _, b := range tooLong {
			sealsNot(t, "too long", no, b, api.ErrLong)
		}
		sealsNot(t, "a page as it stands", no, stands(no, nil), api.ErrLong)
		for _, n := range []int{0, 1, 507, 508} {
			asModel(t, no, rising(n))
		}
	}
}

// P15.1: ErrSize: not 512 bytes, whatever they are.
func TestErrSize(t *testing.T) {
	for _, no := range edges {
		p := stands(no, rising(508))
		for n := range 512 {
			opensNot(t, "too short", no, p[:n:n], api.ErrSize)
			opensNot(t, "too short, the rest behind it", no, p[:n], api.ErrSize)
			opensNot(t, "too short, the end of it", no, p[512-n:], api.ErrSize)
		}
		for _, n := range []int{1, 2, 4, 64, 512, 65536} {
			opensNot(t, "too long", no, append(bytes.Clone(p), make([]byte, n)...), api.ErrSize)
			opensNot(t, "too long", no, append(make([]byte, n), p...), api.ErrSize)
		}
		opensNot(t, "nil", no, nil, api.ErrSize)
		opensNot(t, "two pages", no, append(bytes.Clone(p), p...), api.ErrSize)
		opens(t, no, p, rising(508))
	}
}

// P15.1: ErrSum: the sum is another one, wherever it differs.
func TestErrSum(t *testing.T) {
	for _, no := range edges {
		p := stands(no, rising(508))
		for at := range 512 {
			for _, v := range []byte{1, 128, 255} {
				p[at] ^= v
				opensNot(t, "another byte", no, p, api.ErrSum)
				p[at] ^= v
			}
		}
		opens(t, no, p, rising(508))
		opensNot(t, "the bytes alone", no, append(rising(508), 0, 0, 0, 0), api.ErrSum)
		opensNot(t, "ones", no, bytes.Repeat([]byte{255}, 512), api.ErrSum)
		opensNot(t, "zeros", no, make([]byte, 512), api.ErrSum)
	}
}

// P15.1, R2: two errors of Seal at once: the number, and too many bytes.
func TestSealTwoErrors(t *testing.T) {
	for _, no := range beyond {
		for _, b := range tooLong {
			sealsNot(t, "a number that may not be, and too long", no, b, api.ErrArg)
		}
	}
}

// P15.1, R2: two errors of Open at once, and all three.
func TestOpenManyErrors(t *testing.T) {
	wrong := stands(5, rising(508))
	wrong[200] ^= 4
	right := stands(5, rising(508))
	for _, no := range beyond {
		opensNot(t, "a number that may not be, and another sum", no, wrong, api.ErrArg)
		for _, b := range [][]byte{nil, {}, right[:511], append(bytes.Clone(right), 0)} {
			opensNot(t, "a number that may not be, and another size", no, b, api.ErrArg)
		}
		for _, b := range [][]byte{wrong[:511], wrong[1:], append(bytes.Clone(wrong), 0), wrong[:508], rising(4)} {
			opensNot(t, "all three", no, b, api.ErrArg)
		}
	}
	for _, b := range [][]byte{nil, {}, wrong[:511], wrong[1:], wrong[:508], append(bytes.Clone(wrong), 0), append(bytes.Clone(right), 0)} {
		opensNot(t, "another size, and another sum", 5, b, api.ErrSize)
	}
	opensNot(t, "another sum alone", 5, wrong, api.ErrSum)
}
