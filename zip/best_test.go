package zip

import (
	"fmt"
	"math/rand"
	"strings"
	"testing"

	"inquest/api"
	"inquest/deflate"
	"inquest/unzip"
)

// inEach is how many bytes the data have plain, by the fixed codes, and by codes of their own.
func inEach(t *testing.T, data string) [3]int {
	t.Helper()
	long := [3]int{len(data)}
	for how := 1; how <= 2; how++ {
		b, e := deflate.Pack([]byte(data), how)
		if e != api.OK {
			t.Fatal(e)
		}
		long[how] = len(b)
	}
	return long
}

// firstOf is which of the ways has the fewest bytes, of several the first one; and whether another one has as many.
func firstOf(long [3]int) (int, [3]bool) {
	first := 0
	for how, n := range long {
		if n < long[first] {
			first = how
		}
	}
	var like [3]bool
	for how, n := range long {
		like[how] = how != first && n == long[first]
	}
	return first, like
}

// isBest holds an archive of these data, in way 3, against the way that has the fewest bytes, which it hands out with those that have as many.
func isBest(t *testing.T, data string) (int, [3]bool) {
	t.Helper()
	long := inEach(t, data)
	first, like := firstOf(long)
	b := makes(t, "way 3", api.Item{Name: "n", Dos: dawn, Data: []byte(data), How: 3})
	l, e := unzip.Open(b)
	if e != api.OK || len(l) != 1 {
		t.Fatal(l, e)
	}
	got := string(b[l[0].At : l[0].At+l[0].Csize])
	want := data
	if first > 0 {
		p, _ := deflate.Pack([]byte(data), first)
		want = string(p)
	}
	if got != want || l[0].Method != 8*min(first, 1) || l[0].Csize != long[first] {
		t.Errorf("%s: of %v method %d, %s", short(data), long, l[0].Method, short(got))
	}
	return first, like
}

// P12.1: in way 3 data are plain, by the one code, or by the other, whichever has the fewest bytes.
func TestBest(t *testing.T) {
	x := rand.New(rand.NewSource(5))
	noise := make([]byte, 5000)
	x.Read(noise)
	for _, c := range []struct {
		data string
		how  int
	}{
		{"", 0}, {"a", 0}, {"ab", 0}, {"hello", 0}, {string(noise), 0}, {string(noise[:20]), 0}, {"\x00\x00", 0},
		{strings.Repeat("a", 30), 1}, {strings.Repeat("ab", 20), 1}, {"one, two, one, two, one", 1},
		{strings.Repeat("\xf0\xf1", 3) + letters(x, 2000, "\xf0\xf1\xf2"), 2}, {letters(x, 3000, "abcdefgh"), 2},
	} {
		if how, _ := isBest(t, c.data); how != c.how {
			t.Errorf("%s: way %d, wanted %d", short(c.data), how, c.how)
		}
	}
}

// letters are so many of these letters, by chance.
func letters(x *rand.Rand, many int, of string) string {
	b := make([]byte, many)
	for i := range b {
		b[i] = of[x.Intn(len(of))]
	}
	return string(b)
}

// P12.1: where two ways have as many bytes, way 3 is the first one of them: here each two of them do.
func TestBestIsTheFirst(t *testing.T) {
	var many [3][3]int
	for seed := range int64(3000) {
		x := rand.New(rand.NewSource(seed))
		from := x.Intn(2) * 144
		var of []byte
		for range 1 + x.Intn(112) {
			of = append(of, byte(from+x.Intn(112)))
		}
		n := x.Intn(40)
		if seed%3 > 0 {
			n = x.Intn(400)
		}
		first, like := isBest(t, letters(x, n, string(of)))
		for how, is := range like {
			if is {
				many[first][how]++
			}
		}
		many[first][first]++
	}
	if many[0][0] == 0 || many[1][1] == 0 || many[2][2] == 0 || many[0][1] == 0 || many[0][2] == 0 || many[1][2] == 0 {
		t.Errorf("so often each way is best, and another one as good: %v", many)
	}
}

// P12.1: data that stand plain have no bytes beside them: where a code has fewer than layer 7 stores them by, but not fewer than they are themselves, they are plain.
func TestPlainHasNoHead(t *testing.T) {
	many := 0
	for seed := range int64(2000) {
		x := rand.New(rand.NewSource(seed))
		data := letters(x, x.Intn(60), "abcdefghijklmnopqrstuvwxyz\xf0\xf1\xf2\xf3"[:1+x.Intn(30)])
		long := inEach(t, data)
		first, _ := isBest(t, data)
		if fewest := min(long[1], long[2]); fewest >= len(data) && fewest < len(data)+5 {
			many++
			if first != 0 {
				t.Errorf("%q: %v, way %d", data, long, first)
			}
		}
	}
	if many == 0 {
		t.Error("no such data")
	}
}

// P12.1, P12.2: each item is packed in its own way, whatever those beside it are.
func TestWaysSideBySide(t *testing.T) {
	data := strings.Repeat("side by side, ", 20)
	var l []api.Item
	for k := range 64 {
		l = append(l, api.Item{Name: fmt.Sprint(k), Dos: dawn, Data: []byte(data), How: (k/4 + k) % 4})
	}
	b := makes(t, "side by side", l...)
	files, _ := unzip.Open(b)
	for k, f := range files {
		long := inEach(t, data)
		first, _ := firstOf(long)
		want := long[first]
		if l[k].How < 3 {
			want = long[l[k].How]
		}
		if f.Csize != want {
			t.Errorf("%d: %v, wanted %d bytes", k, f, want)
		}
	}
}
