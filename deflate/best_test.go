package deflate

import (
	"bytes"
	"fmt"
	"math/rand"
	"slices"
	"testing"

	"inquest/api"
)

// bestOf is which of the ways makes the fewest bytes of b, of several the first one, and what is packed so; and which others make as many.
func bestOf(t *testing.T, b []byte) ([]byte, int, []int) {
	t.Helper()
	var ways [][]byte
	for how := range 3 {
		ways = append(ways, packed(t, b, how))
	}
	best := slices.MinFunc(ways, func(a, b []byte) int { return len(a) - len(b) })
	var like []int
	for how, p := range ways {
		if len(p) == len(best) {
			like = append(like, how)
		}
	}
	return ways[like[0]], like[0], like[1:]
}

// isBest tells whether Best tells of these pieces what is best of all of them as one, and which other ways are as good.
func isBest(t *testing.T, what string, l ...[]byte) (int, []int) {
	t.Helper()
	p, how, like := bestOf(t, slices.Concat(l...))
	got, way := Best(l...)
	if way != how || !bytes.Equal(got, p) {
		t.Errorf("%s: %d bytes %x, way %d; wanted %d bytes %x, way %d", what, len(got), head(got), way, len(p), head(p), how)
	}
	return how, like
}

// P7.1: Best is the way that makes the fewest bytes: each of them is, now and then.
func TestBest(t *testing.T) {
	var many [3]int
	for what, b := range samples() {
		how, _ := isBest(t, what, b)
		many[how]++
	}
	if slices.Min(many[:]) == 0 {
		t.Errorf("so often each way is best: %v", many)
	}
}

// P7.1: of several ways that make equally many bytes the first one is best: here each two of them do.
func TestBestIsTheFirst(t *testing.T) {
	var many [3][3]int
	for seed := range int64(400) {
		x := rand.New(rand.NewSource(seed))
		b := anyOf(x, x.Intn(400), string(rising(255-x.Intn(200), 255)))
		how, like := isBest(t, fmt.Sprintf("seed %d", seed), b)
		for _, other := range like {
			many[how][other]++
		}
	}
	for n := range 400 {
		how, like := isBest(t, fmt.Sprintf("%d of a text", n), []byte(aText + aText)[:min(n, 2*len(aText))])
		for _, other := range like {
			many[how][other]++
		}
	}
	// By nine bits for each in Fixed, and ten more, 23 to 30 high bytes make just as many bytes as Stored.
	high := rising(144, 255)
	rand.New(rand.NewSource(6)).Shuffle(len(high), func(i, j int) { high[i], high[j] = high[j], high[i] })
	for n := 23; n <= 30; n++ {
		if how, like := isBest(t, fmt.Sprintf("%d high bytes", n), high[:n]); how != Stored || !slices.Contains(like, Fixed) {
			t.Errorf("%d high bytes: way %d, and %v", n, how, like)
		}
	}
	if how, like := isBest(t, "22 high bytes", high[:22]); how != Fixed || len(like) != 0 {
		t.Errorf("22 high bytes: way %d, and %v", how, like)
	}
	if many[Stored][Fixed] == 0 || many[Stored][Dynamic] == 0 || many[Fixed][Dynamic] == 0 {
		t.Errorf("so often two ways are as good: %v", many)
	}
}

// P7.1: of pieces Best tells the same as of all their bytes at once, wherever they are cut, and however many there are.
func TestBestOfPieces(t *testing.T) {
	for _, b := range [][]byte{nil, []byte("a"), []byte(aText), rising(100, 255), bytes.Repeat([]byte("abcd"), 60), rising(200, 230)} {
		want, how := Best(b)
		for i := 0; i <= len(b); i++ {
			for _, j := range []int{i, min(i+1, len(b)), min(i+7, len(b)), len(b)} {
				p, way := Best(b[:i], nil, b[i:j], []byte{}, b[j:])
				if way != how || !bytes.Equal(p, want) {
					t.Errorf("%x cut at %d and %d: %x, way %d; wanted %x, way %d", head(b), i, j, head(p), way, head(want), how)
				}
			}
		}
		var single [][]byte
		for i := range b {
			single = append(single, b[i:i+1])
		}
		isBest(t, "single bytes", single...)
	}
	a := bytes.Repeat([]byte("a"), 10)
	if p, how := Best(a, a); how != Fixed || len(p) > 8 {
		t.Errorf("ten times a, and again: %x, way %d", p, how)
	}
	isBest(t, "long pieces", bytes.Repeat([]byte("abc"), 30000), rising(0, 255), bytes.Repeat([]byte("abc"), 30000))
}

// P7.1: of none, and of pieces without bytes, Best is the fewest bytes that are unpacked to none.
func TestBestOfNone(t *testing.T) {
	for _, l := range [][][]byte{nil, {}, {nil}, {{}}, {nil, nil, {}}, make([][]byte, 10000)} {
		if p, how := Best(l...); how != Fixed || !bytes.Equal(p, []byte{3, 0}) {
			t.Errorf("%d pieces: %x, way %d", len(l), p, how)
		}
		isBest(t, "none", l...)
	}
	p, _ := Best()
	unpacks(t, "none", p, nil)
	if _, e := Pack(nil, Dynamic); e != api.OK {
		t.Error(e)
	}
}
