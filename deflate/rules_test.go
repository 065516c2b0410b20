package deflate

import (
	"bytes"
	"fmt"
	"math"
	"math/rand"
	"slices"
	"sync"
	"testing"

	"inquest/api"
)

var extremes = []int{math.MinInt, math.MinInt + 1, -1 << 32, -65536, -4, -3, -2, -1, 3, 4, 5, 6, 7, 8, 255, 256, 257, 258, 1 << 16, 1<<24 + 1, 1<<31 - 1, 1 << 31, 1 << 32, 1<<32 + 1, math.MaxInt - 1, math.MaxInt}

// R1 and P7.1: a way that there isn't is ErrArg, whatever is to be packed; no call panics.
func TestNoSuchWay(t *testing.T) {
	for _, how := range extremes {
		for _, b := range [][]byte{nil, {}, []byte("a"), []byte(aText)} {
			if p, e := Pack(b, how); len(p) != 0 || e != api.ErrArg {
				t.Errorf("%q, way %d: %x, %v, wanted ErrArg", b, how, p, e)
			}
		}
	}
}

// R2: of both errors ErrArg is told, and nothing beside it.
func TestErrorsInOrder(t *testing.T) {
	b := make([]byte, 1<<24+1)
	for _, how := range extremes {
		if p, e := Pack(b, how); p != nil || e != api.ErrArg {
			t.Errorf("way %d: %d bytes, %v, wanted ErrArg", how, len(p), e)
		}
	}
	for how := range 3 {
		if p, e := Pack(b, how); p != nil || e != api.ErrLong {
			t.Errorf("way %d: %d bytes, %v, wanted ErrLong", how, len(p), e)
		}
	}
	if p, how := Best(b); p != nil || how != 0 {
		t.Errorf("%d bytes, way %d", len(p), how)
	}
}

// R1: any bytes are packed.
func TestAnyBytes(t *testing.T) {
	for seed := range int64(1500) {
		x := rand.New(rand.NewSource(seed))
		b := anyOf(x, x.Intn(20), string(rising(0, x.Intn(256))))
		for range x.Intn(12) {
			switch n := x.Intn(len(b) + 1); x.Intn(3) {
			case 0:
				b = append(b, b[n:]...)
			case 1:
				b = append(b, bytes.Repeat([]byte{byte(n)}, n%600)...)
			case 2:
				b = append(b, anyOf(x, n%50, string(rising(0, 255)))...)
			}
		}
		for how := range 3 {
			unpacks(t, fmt.Sprintf("seed %d, way %d", seed, how), packed(t, b, how), b)
		}
	}
}

// R3: nil and empty lists are one.
func TestNilIsEmpty(t *testing.T) {
	for how := range 3 {
		want := packed(t, nil, how)
		for _, b := range [][]byte{{}, make([]byte, 0, 9), []byte("abc")[:0]} {
			if p := packed(t, b, how); !bytes.Equal(p, want) {
				t.Errorf("way %d: %x, wanted %x", how, p, want)
			}
		}
	}
}

// spare is b with room behind it, filled with 0x55, so that a write into it is seen.
func spare(b []byte) []byte {
	whole := append(slices.Clone(b), slices.Repeat([]byte{0x55}, 5000)...)
	return whole[:len(b)]
}

// turn turns over all of b, its spare room, too.
func turn(b []byte) {
	b = b[:cap(b)]
	for i := range b {
		b[i] = ^b[i]
	}
}

// R4: bytes that are handed in stay as they were, spare room included; so does the list of them.
func TestArgumentsStay(t *testing.T) {
	for what, of := range samples() {
		b := spare(of)
		before := slices.Clone(b[:cap(b)])
		for how := range 3 {
			Pack(b, how)
		}
		Best(b)
		l := append(make([][]byte, 0, 9), b[:len(b)/2], b[:len(b)/3], b[len(b)/2:])
		was := slices.Clone(l)
		Best(l...)
		for i := range l {
			if len(l[i]) != len(was[i]) || len(l[i]) > 0 && &l[i][0] != &was[i][0] {
				t.Errorf("%s: piece %d is another one", what, i)
			}
		}
		if l[:4][3] != nil {
			t.Errorf("%s: a piece came behind", what)
		}
		if !slices.Equal(b[:cap(b)], before) {
			t.Errorf("%s turned to %x", what, head(b))
		}
	}
}

// R4: what is answered is new: turned over, spare room included, it changes neither what was handed in nor another answer.
func TestAnswersAreNew(t *testing.T) {
	for _, of := range [][]byte{nil, []byte("a"), []byte(aText), rising(100, 255), make([]byte, 70000), rising(200, 230)} {
		b := spare(of)
		before := slices.Clone(b[:cap(b)])
		var kept, was [][]byte
		for range 2 {
			for how := range 3 {
				kept = append(kept, packed(t, b, how))
			}
			p, _ := Best(b)
			two, _ := Best(b[:len(b)/2], b[len(b)/2:])
			kept = append(kept, p, two)
		}
		for _, p := range kept {
			was = append(was, slices.Clone(p))
		}
		for i, p := range kept {
			turn(p)
			for j := range kept {
				if j > i && !bytes.Equal(kept[j], was[j]) {
					t.Fatalf("%x: answer %d changes with answer %d", head(of), j, i)
				}
			}
			if !slices.Equal(b[:cap(b)], before) {
				t.Fatalf("%x: what was handed in changes with answer %d", head(of), i)
			}
			turn(p)
		}
	}
}

// R4: bytes that are handed in aren't kept: turned over later on, they change no answer.
func TestArgumentsAreNotKept(t *testing.T) {
	for _, of := range [][]byte{[]byte("a"), []byte(aText), rising(100, 255), rising(200, 230), make([]byte, 70000)} {
		for how := range 4 {
			b := spare(of)
			pack := func(b []byte) []byte {
				if how == 3 {
					p, _ := Best(b)
					return p
				}
				return packed(t, b, how)
			}
			p := pack(b)
			was := slices.Clone(p)
			turn(b)
			if !bytes.Equal(p, was) {
				t.Errorf("%x, way %d: an answer changes", head(of), how)
			}
			pack(b)
			turn(b)
			if again := pack(b); !bytes.Equal(again, was) {
				t.Errorf("%x, way %d: %x, it was %x", head(of), how, head(again), head(was))
			}
		}
	}
}

// R5: what is answered hangs on the arguments alone: not on spare room, nor on what was packed ahead, nor on what is packed at the same time.
func TestAnswersHangOnArguments(t *testing.T) {
	all := samples()
	type answer struct {
		ways [4]string
		best int
	}
	pack := func(b []byte) answer {
		var a answer
		for how := range 3 {
			p, _ := Pack(b, how)
			a.ways[how] = string(p)
		}
		p, how := Best(b)
		a.ways[3], a.best = string(p), how
		return a
	}
	first := map[string]answer{}
	for what, b := range all {
		first[what] = pack(slices.Clip(slices.Clone(b)))
	}
	var done sync.WaitGroup
	for range 3 {
		done.Go(func() {
			for what, b := range all {
				if pack(spare(b)) != first[what] {
					t.Errorf("%s: another answer", what)
				}
			}
		})
	}
	done.Wait()
}
