package dos

import (
	"math"
	"math/rand"
	"strings"
	"sync"
	"testing"

	"inquest/api"
)

var extremes = []int{math.MinInt, math.MinInt + 1, math.MinInt + 1980, -1 << 33, -1 << 32, -1<<31 - 1, -1 << 31, -65536, -1980, -2, -1, 0, 1, 2, 12, 13, 28, 29, 30, 31, 32, 59, 60, 1979, 1980, 2000, 2107, 2108, 65536, 1<<31 - 1, 1 << 31, 1<<32 - 1, 1 << 32, 1<<32 + 1, math.MaxInt - 2107, math.MaxInt - 1, math.MaxInt}

// R1, P8.1: any numbers in a moment's parts are told to be right or not, and none panics.
func TestAnyMoments(t *testing.T) {
	for _, a := range extremes {
		for _, b := range extremes {
			for _, m := range []Moment{
				{a, b, 1, 0, 0, 0}, {2024, a, b, 0, 0, 0}, {a, 2, b, 0, 0, 0}, {a, b, 29, 0, 0, 0},
				{2024, 2, 29, a, b, 0}, {2024, 2, 29, 0, a, b}, {2024, 2, 29, a, 0, b}, {a, a, a, b, b, b}, {a, b, a, b, a, b},
				{a, 1, 1, b, 0, 0}, {1980, a, 1, 0, b, 0}, {2107, 12, a, 23, 59, b},
			} {
				is := m.Year >= 1980 && m.Year <= 2107 && m.Month >= 1 && m.Month <= 12 && m.Day >= 1 && m.Day <= 31
				is = is && m.Hour >= 0 && m.Hour <= 23 && m.Minute >= 0 && m.Minute <= 59 && m.Second >= 0 && m.Second <= 59
				if is {
					asModelOf(t, m)
					continue
				}
				if Right(m) {
					t.Errorf("%v is right", m)
				}
				if n, e := Put(m); n != 0 || e != api.ErrArg {
					t.Errorf("Put(%v): %d, %v", m, n, e)
				}
			}
		}
	}
}

// P8.1: moments around what is right, in all parts at once.
func TestMomentsAround(t *testing.T) {
	x := rand.New(rand.NewSource(8))
	for range 300000 {
		asModelOf(t, Moment{1979 + x.Intn(131), x.Intn(14), x.Intn(33), x.Intn(26) - 1, x.Intn(62) - 1, x.Intn(62) - 1})
	}
}

// R1, R2: any number is told to be a moment's or not, and beside an error there is nothing.
func TestAnyNumbers(t *testing.T) {
	for _, a := range extremes {
		for _, b := range extremes {
			n := a + b
			if n >= 0 && n < 1<<32 {
				asModel(t, n)
				continue
			}
			if m, e := Get(n); m != (Moment{}) || e != api.ErrArg {
				t.Errorf("Get(%d): %v, %v", n, m, e)
			}
			if s, e := Text(n); s != "" || e != api.ErrArg {
				t.Errorf("Text(%d): %q, %v", n, s, e)
			}
		}
	}
	x := rand.New(rand.NewSource(9))
	for range 300000 {
		asModel(t, int(x.Uint32()))
	}
}

// R1: any text is told to be a moment or not, of any length.
func TestAnyTexts(t *testing.T) {
	for n := range 40 {
		for _, s := range []string{"0", "9", "-", " ", ":", "\x00", "\xff", "é", "1980-01-01"} {
			asModelIn(t, strings.Repeat(s, n))
		}
	}
	x := rand.New(rand.NewSource(10))
	const bytes = "0123456789012345678901234567890123456789-: +"
	for range 300000 {
		b := make([]byte, 10+9*x.Intn(2))
		for i := range b {
			b[i] = bytes[x.Intn(len(bytes))]
			if c := shape[i]; c != '0' && x.Intn(30) > 0 {
				b[i] = c
			}
		}
		copy(b, []string{"", "19", "20", "198", "210", "2024-0", "2024-1"}[x.Intn(7)])
		asModelIn(t, string(b))
	}
}

// R5: what is answered hangs on the arguments alone: the same again, whatever was asked in between, and by several at once.
func TestSameAgain(t *testing.T) {
	var all sync.WaitGroup
	for k := range 8 {
		all.Add(1)
		go func() {
			defer all.Done()
			for i := range 5000 {
				s := some[(i+k)%len(some)]
				n, e := Put(s.m)
				m, _ := Get(s.n)
				text, _ := Text(s.n)
				p, is := Parse(s.text)
				if n != s.n || e != api.OK || m != s.even || text != s.text || p != s.n || !is || !Right(s.m) {
					t.Errorf("%v: %d, %v, %v, %q, %d", s.m, n, e, m, text, p)
				}
				Parse("2023-02-29")
				Get(-1)
			}
		}()
	}
	all.Wait()
}
