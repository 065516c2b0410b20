package unzip

import (
	"bytes"
	"math/rand"
	"slices"
	"strings"
	"sync"
	"testing"

	"inquest/api"
)

// R1, R2: no call panics, whatever file is told, and beside an error there is nothing.
func TestAnyFiles(t *testing.T) {
	x := rand.New(rand.NewSource(11))
	b := []byte(byHand)
	likely := func(right int) int {
		if x.Intn(3) == 0 {
			return extremes[x.Intn(len(extremes))]
		}
		return right
	}
	for range 20000 {
		f := api.File{Name: "n", Method: likely(8 * x.Intn(2)), Dos: likely(0), Crc: x.Uint32(), Csize: likely(x.Intn(10)), Size: likely(5), At: likely(x.Intn(len(b)))}
		content, e := told(b, f)
		brings(t, "any file", b, f, string(content), e, 1+x.Intn(9))
		for _, none := range [][]byte{nil, {}} {
			content, e := told(none, f)
			brings(t, "any file of nothing", none, f, string(content), e, 1)
		}
	}
}

// R1: calls of a stream may come in any order, with any number.
func TestAnyCalls(t *testing.T) {
	for seed := range int64(60) {
		x := rand.New(rand.NewSource(seed))
		content := noise(seed, x.Intn(300000), 5)
		for what, s := range bothWays(content) {
			at := 0
			for range 40 {
				switch x.Intn(4) {
				case 0:
					if s.Done() != (at == len(content)) {
						t.Fatalf("%s: Done %v at %d of %d", what, s.Done(), at, len(content))
					}
				case 1:
					s.Held()
				default:
					n := extremes[x.Intn(len(extremes))]
					want := content[at:min(len(content), at+max(1, min(n, 65536)))]
					gets(t, what, s, n, want, at+len(want) == len(content))
					at += len(want)
				}
			}
		}
	}
}

// R3: nil and empty are one, handed in and answered.
func TestNilIsEmpty(t *testing.T) {
	for _, b := range [][]byte{nil, {}, make([]byte, 0, 99)} {
		opens(t, "nothing", b, nil, api.ErrForm)
		brings(t, "nothing", b, api.File{}, "", api.OK, 1, 100)
		brings(t, "nothing", b, api.File{Crc: 1}, "", api.ErrSum, 1, 100)
		brings(t, "nothing", b, api.File{Method: 8}, "", api.ErrEnd, 1, 100)
		brings(t, "nothing", b, api.File{At: 1}, "", api.ErrArg, 1, 100)
	}
}

// R3: each field of a file has its meaning, and what has none isn't told.
func TestFieldsOfFiles(t *testing.T) {
	w := some()
	w.parts[0].both(func(r *raw) { r.dos, r.flags = 0, 6 })
	w.parts[0].central.comment, w.parts[0].central.beside = "comment", "\x07\x00\x00\x00"
	want := api.File{Name: "one.txt", Crc: 0x3610a686, Csize: 5, Size: 5, At: 37}
	if l, e := Open(w.bytes()); e != api.OK || l[0] != want {
		t.Errorf("%+v, %v, wanted %+v", l, e, want)
	}
}

// roomy is b, with room behind it that is filled, so that a write into it is seen.
func roomy(b []byte, x byte) []byte {
	whole := append(slices.Clone(b), bytes.Repeat([]byte{x}, 100000)...)
	return whole[:len(b)]
}

// fill writes over all of b, spare room included.
func fill(b []byte, x byte) {
	b = b[:cap(b)]
	for i := range b {
		b[i] = x
	}
}

// R4: what is handed in isn't changed, spare room included, whatever is answered, and whatever is done with that.
func TestArgumentsStay(t *testing.T) {
	for _, a := range append(archives(), []byte(byHand[:100]), errors4().bytes()) {
		b := roomy(a, 0xaa)
		before := slices.Clone(b[:cap(b)])
		l, _ := Open(b)
		for _, f := range l {
			for more := range 2 {
				f.Crc += uint32(more)
				out, _ := Content(b, f)
				fill(out, '!')
				s := Read(b, f)
				for range 10 {
					out, _ := s.Next(2)
					fill(out, '!')
				}
			}
		}
		if l = l[:cap(l)]; len(l) > 0 {
			l[0].Name = "another"
		}
		if !bytes.Equal(b[:cap(b)], before) {
			t.Errorf("%.200x became %.200x", before, b[:len(a)])
		}
	}
}

// R4: what is handed in isn't kept as it is: a stream goes on with what stood there when it was made.
func TestArgumentsAreNotKept(t *testing.T) {
	content := noise(14, 200000, 6)
	for _, p := range []part{plainPart("n", content), packedPart("n", content)} {
		b, f := p.alone()
		untouched, touched := Read(b, f), Read(b, f)
		first, _ := touched.Next(1000)
		fill(b, '?')
		out, e := pieces(t, "untouched", untouched, func() int { return 5000 })
		rest, g := pieces(t, "touched", touched, func() int { return 5000 })
		if string(out) != content || string(first)+string(rest) != content || e != api.OK || g != api.OK {
			t.Errorf("method %d: %v, %v", f.Method, e, g)
		}
	}
	b := []byte(byHand)
	l, _ := Open(b)
	fill(b, '?')
	if l[0].Name != "a.txt" || l[1].Name != "b" {
		t.Errorf("%v", l)
	}
}

// R4: an answer shares nothing with an argument, an object, or an earlier answer, spare room included.
func TestAnswersAreNew(t *testing.T) {
	content := noise(15, 200000, 6)
	for _, p := range []part{plainPart("n", content), packedPart("n", content)} {
		b, f := p.alone()
		one, _ := Content(b, f)
		two, _ := Content(b, f)
		fill(one, '!')
		three, _ := Content(b, f)
		if string(two) != content || string(three) != content {
			t.Errorf("method %d: contents share memory", f.Method)
		}
		for _, most := range []int{1, 100, 30000, 65536} {
			s, other := Read(b, f), Read(b, f)
			at := 0
			var kept []byte
			for !s.Done() && at < 300*most {
				if string(kept) != content[at-len(kept):at] {
					t.Fatalf("method %d: pieces share memory", f.Method)
				}
				fill(kept, '!')
				kept, _ = s.Next(most)
				again, _ := other.Next(most)
				if string(kept) != content[at:at+len(kept)] || string(again) != string(kept) {
					t.Fatalf("method %d: at %d of pieces of %d", f.Method, at, most)
				}
				fill(again, '?')
				at += len(kept)
			}
		}
	}
	b := some().bytes()
	one, _ := Open(b)
	two, _ := Open(b)
	one = one[:cap(one)]
	for i := range one {
		one[i] = api.File{Name: "written over"}
	}
	opens(t, "again", b, two, api.OK)
	if !slices.Equal(two, placed(some())) {
		t.Error("lists share memory")
	}
}

// R5: what is answered hangs on the arguments alone: the same again, by several at once, whatever room there is behind, and whatever was asked in between.
func TestSameAgain(t *testing.T) {
	content := strings.Repeat("one, two, three ", 5000)
	w := some()
	w.parts = append(w.parts, packedPart("long", content))
	files := placed(w)
	var all sync.WaitGroup
	for k := range 8 {
		all.Add(1)
		go func() {
			defer all.Done()
			for i := range 20 {
				b := roomy(w.bytes(), byte(k*i))
				if l, e := Open(b); e != api.OK || !slices.Equal(l, files) {
					t.Errorf("%v, %v", l, e)
				}
				if out, e := Content(b, files[3]); string(out) != content || e != api.OK {
					t.Errorf("%d bytes, %v", len(out), e)
				}
				Open(b[i:])
				Content(b[i:], files[2])
				wrong := files[1]
				wrong.Crc++
				if out, e := Content(b, wrong); len(out) != 0 || e != api.ErrSum {
					t.Errorf("%x, %v", out, e)
				}
			}
		}()
	}
	all.Wait()
}

// R5: streams don't touch one another, and asking how they stand changes nothing.
func TestStreamsStandAlone(t *testing.T) {
	content := noise(16, 50000, 6)
	one, two := bothWays(content), bothWays(content)
	bad := Read(nil, api.File{Method: 9})
	for at := 0; at < len(content); at += 500 {
		for what, s := range one {
			want, done := content[at:at+500], at+500 == len(content)
			gets(t, what, s, 500, want, done)
			for range 3 {
				two[what].Done()
				two[what].Held()
			}
			gets(t, what, two[what], 500, want, done)
			over(t, "bad", bad, api.ErrArg)
		}
	}
}
