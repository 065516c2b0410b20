package inflate

import (
	"bytes"
	"compress/flate"
	"fmt"
	"math/rand"
	"slices"
	"testing"

	"inquest/api"
)

// takes unpacks b, put in pieces by chance, and taken by chance: all bytes, and the error at the end.
func takes(t *testing.T, b []byte, x *rand.Rand) ([]byte, int, api.Errno) {
	t.Helper()
	piece, most := 1+x.Intn(1+x.Intn(len(b)+2)), 1+x.Intn(1+x.Intn(300))
	r := New()
	var all []byte
	for {
		n := min(len(b), x.Intn(piece+1))
		r.Put(b[:n])
		b = b[n:]
		for {
			want := x.Intn(most + 1)
			out, e := r.Get(want)
			all = append(all, out...)
			if len(out) > want || e == api.OK && len(out) < want && !r.Done() || e != api.OK && len(out) == want && want > 0 {
				t.Fatalf("Get(%d): %d bytes, %v", want, len(out), e)
			}
			if e == api.ErrData || e == api.OK && r.Done() && len(b) == 0 {
				return all, r.Rest(), e
			}
			if e == api.ErrEnd && len(b) == 0 {
				return all, r.Rest(), e
			}
			if e == api.ErrEnd || r.Done() || x.Intn(3) == 0 && len(b) > 0 {
				break
			}
		}
	}
}

// byModel tells whether b unpacks as the model has it, at once, and in pieces.
func byModel(t *testing.T, what string, b []byte, x *rand.Rand) {
	t.Helper()
	want, taken, wanted := told(b)
	unpacks(t, what, b, want, taken, wanted)
	for range 2 {
		out, rest, e := takes(t, b, x)
		same(t, what+" in pieces", out, want, e, wanted)
		if wanted == api.OK && rest != len(b)-taken || wanted != api.OK && rest != 0 {
			t.Errorf("%s in pieces: Rest %d", what, rest)
		}
	}
	if t.Failed() {
		t.Fatalf("%x", b)
	}
}

// P6.3: packed data, and as many of their first bytes as there may be, unpack as the model, and the packer, have it, in whatever pieces.
func TestPieces(t *testing.T) {
	for seed := range int64(60) {
		x := rand.New(rand.NewSource(seed))
		p := anyPack(x)
		b := append(p.bytes(), anyBytes(x, x.Intn(4))...)
		for cut := range len(b) + 1 {
			if cut%8 > 0 && seed > 10 && cut < len(b)-8 {
				continue
			}
			if want, _, _ := told(b[:cut]); !bytes.Equal(want, p.outOf(8*cut)) {
				t.Fatalf("the model has %x of %x, wanted %x", want, b[:cut], p.outOf(8*cut))
			}
			byModel(t, fmt.Sprintf("%d bytes of pack %d", cut, seed), b[:cut], x)
		}
	}
}

// P6.1, P6.3: put byte by byte, each part is handed out as soon as it is whole, and ErrEnd is told till the end.
func TestByteByByte(t *testing.T) {
	for seed := range int64(60) {
		x := rand.New(rand.NewSource(seed))
		p := anyPack(x)
		b := append(p.bytes(), 0xff, 0xff)
		r, at := New(), 0
		for i := range b {
			what := fmt.Sprintf("%d bytes of pack %d", i+1, seed)
			r.Put(b[i : i+1])
			wanted := api.ErrEnd
			if i >= len(b)-3 {
				wanted = api.OK
			}
			want := p.outOf(8*i + 8)[at:]
			got(t, what, r, 65536, want, wanted)
			at += len(want)
			stands(t, what, r, wanted == api.OK, max(0, i+3-len(b)))
		}
	}
}

// P6.3: data that are changed by chance unpack as the model has it: as far, and with the same error, in whatever pieces.
func TestChangedData(t *testing.T) {
	errors := map[api.Errno]int{}
	for seed := range int64(3000) {
		x := rand.New(rand.NewSource(seed))
		b := anyPack(x).bytes()
		for range 1 + x.Intn(3) {
			b[x.Intn(1+x.Intn(len(b)))] ^= 1 << x.Intn(8)
		}
		byModel(t, fmt.Sprint("changed pack ", seed), b, x)
		_, _, e := told(b)
		errors[e]++
	}
	for _, e := range []api.Errno{api.OK, api.ErrEnd, api.ErrData} {
		if errors[e] < 20 {
			t.Errorf("%v was told %d times only", e, errors[e])
		}
	}
}

// P6.3: any bytes are unpacked to an end, or to an error, as the model has it.
func TestAnyBytes(t *testing.T) {
	for seed := range int64(3000) {
		x := rand.New(rand.NewSource(seed))
		b := anyBytes(x, x.Intn(200))
		if len(b) > 0 && x.Intn(4) > 0 {
			b[0] = b[0]&^6 | byte(2+2*x.Intn(2))
		}
		byModel(t, fmt.Sprint("any bytes ", seed), b, x)
	}
}

// P6.3: however much is put at once, and however little is taken, or the other way round, the bytes are the same.
func TestMuchAndLittle(t *testing.T) {
	p := long(120000)
	b := append(p.bytes(), 9, 9, 9)
	for _, put := range []int{1, 13, 4095, 4096, 4097, len(b)} {
		for _, n := range []int{1, 100, 65536} {
			r := New()
			var out []byte
			for at := 0; at < len(b); at += put {
				r.Put(b[at:min(at+put, len(b))])
				for {
					x, e := r.Get(n)
					out = append(out, x...)
					if e == api.ErrEnd || e == api.OK && len(x) < n {
						break
					}
					if e != api.OK {
						t.Fatal(e)
					}
				}
			}
			same(t, fmt.Sprintf("%d put, %d taken", put, n), out, p.out, api.OK, api.OK)
			stands(t, "much and little", r, true, 3)
		}
	}
	r := New()
	for _, c := range b {
		r.Put([]byte{c})
	}
	var out []byte
	for !r.Done() {
		x, _ := r.Get(7)
		out = append(out, x...)
	}
	same(t, "all put, byte by byte, ahead of all taken", out, p.out, api.OK, api.OK)
}

// P6.1, P6.2: what other programs pack is unpacked.
func TestPackedByOthers(t *testing.T) {
	x := rand.New(rand.NewSource(6))
	for _, many := range []int{0, 1, 2, 100, 5000, 100000} {
		for _, of := range []int{1, 2, 5, 30, 256} {
			raw := make([]byte, many)
			for i := range raw {
				raw[i] = byte(min(x.Intn(of), x.Intn(of)))
			}
			for level := flate.HuffmanOnly; level <= flate.BestCompression; level++ {
				var w bytes.Buffer
				f, err := flate.NewWriter(&w, level)
				if err != nil {
					t.Fatal(err)
				}
				f.Write(raw[:many/2])
				f.Flush()
				f.Write(raw[many/2:])
				f.Close()
				unpacks(t, fmt.Sprintf("%d of %d, level %d", many, of, level), slices.Concat(w.Bytes(), []byte{1, 2}), raw, w.Len(), api.OK)
			}
		}
	}
}

// What was taken of the input isn't kept, and of what is behind the end, or behind what isn't right, nothing is.
func TestInputIsForgotten(t *testing.T) {
	b := long(120000).bytes()
	r := New()
	for at := 0; at < len(b); at += 100 {
		r.Put(b[at:min(at+100, len(b))])
		for {
			if out, e := r.Get(1000); e != api.OK || len(out) < 1000 {
				break
			}
		}
		if len(r.in.rest) > 3*piece {
			t.Fatalf("%d bytes are kept", len(r.in.rest))
		}
	}
	bad := put([]byte{7})
	bad.Get(1)
	for _, r := range []*Reader{r, bad} {
		r.Put(b)
		r.Get(10)
		if len(r.in.rest) > 0 || r.in.bits.Left() > 0 {
			t.Errorf("%d bytes are kept", len(r.in.rest))
		}
	}
}
