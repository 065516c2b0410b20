package inflate

import (
	"fmt"
	"math/rand"
	"slices"
	"testing"

	"inquest/api"
)

// R1 and P6.2: of a nil Reader there is nothing, and Get tells ErrNil.
func TestNilReader(t *testing.T) {
	var r *Reader
	for range 2 {
		for _, n := range extremes {
			if out, e := r.Get(n); len(out) != 0 || e != api.ErrNil {
				t.Errorf("Get(%d): %x, %v, wanted ErrNil", n, out, e)
			}
		}
		if r.Done() || r.Rest() != 0 || r.Held() != 0 {
			t.Errorf("Done %v, Rest %d, Held %d", r.Done(), r.Rest(), r.Held())
		}
		r.Put(nil)
		r.Put([]byte{3, 0, 0})
	}
}

// R1: no call panics, whatever it is given, in whatever order.
func TestAllArguments(t *testing.T) {
	for seed := range int64(400) {
		x := rand.New(rand.NewSource(seed))
		b := anyPack(x).bytes()
		if x.Intn(2) == 0 {
			b[x.Intn(len(b))] ^= 1 << x.Intn(8)
		}
		r := New()
		for range 60 {
			n := extremes[x.Intn(len(extremes))]
			switch x.Intn(8) {
			case 0, 1, 2:
				many := x.Intn(len(b) + 1)
				r.Put(b[:many])
				b = b[many:]
			case 3, 4:
				if out, e := r.Get(n); len(out) > max(0, min(n, 65536)) || e != api.OK && e != api.ErrEnd && e != api.ErrData {
					t.Fatalf("Get(%d): %d bytes, %v", n, len(out), e)
				}
			case 5:
				r.Done()
			case 6:
				if r.Rest() < 0 {
					t.Fatal(r.Rest())
				}
			case 7:
				All(b, n)
			}
		}
	}
	for _, n := range extremes {
		for _, b := range [][]byte{nil, {}, {3}} {
			if out, taken, e := All(b, n); len(out) != 0 || taken != 0 || e != api.ErrEnd {
				t.Errorf("All(%x, %d): %x %d %v", b, n, out, taken, e)
			}
		}
	}
}

// R2: beside an error All tells nothing; of errors that apply ErrLong is told ahead of ErrEnd and ErrData.
func TestErrorsAlone(t *testing.T) {
	stored := "00 0300 fcff 616263"
	for _, c := range []struct {
		b    string
		most int
		e    api.Errno
	}{
		{stored, 3, api.ErrEnd},
		{stored, 2, api.ErrLong},
		{stored, 0, api.ErrLong},
		{stored, -5, api.ErrLong},
		{stored + "07", 3, api.ErrData},
		{stored + "07", 2, api.ErrLong},
		{stored + "01 0000 ffff", 2, api.ErrLong},
		{"00 0300 fcff 6162", 2, api.ErrEnd},
		{"00 0300 fcff 6162", 1, api.ErrLong},
		{"07", 0, api.ErrData},
		{"", 0, api.ErrEnd},
	} {
		out, n, e := All(hexed(t, c.b), c.most)
		if len(out) != 0 || n != 0 || e != c.e {
			t.Errorf("%s at most %d: %x, %d, %v, wanted %v", c.b, c.most, out, n, e, c.e)
		}
	}
}

// R3: nil and empty lists are one, handed in and answered.
func TestNilIsEmpty(t *testing.T) {
	for _, b := range [][]byte{nil, {}, make([]byte, 0, 9)} {
		r := put(b, []byte{3}, b)
		got(t, "half of a byte", r, 10, nil, api.ErrEnd)
		r.Put(b)
		r.Put([]byte{0})
		stands(t, "nothing", r, true, 0)
		r.Put(b)
		got(t, "nothing", r, 10, nil, api.OK)
		stands(t, "nothing", r, true, 0)
		if out, n, e := All(b, 9); len(out) != 0 || n != 0 || e != api.ErrEnd {
			t.Errorf("%x %d %v", out, n, e)
		}
	}
}

// spare is b with room behind it, filled with 0x55, so that a write into it is seen.
func spare(b []byte) []byte {
	whole := append(slices.Clone(b), slices.Repeat([]byte{0x55}, 5000)...)
	return whole[:len(b)]
}

// turn turns over all of b, its spare room, too.
func turn(b []byte) {
	b = b[:cap(b)]
	for i := range b {
		b[i] = ^b[i]
	}
}

// R4: bytes that are handed in stay as they were, spare room included, while they are unpacked, and behind that.
func TestArgumentsStay(t *testing.T) {
	for seed := range int64(40) {
		p := anyPack(rand.New(rand.NewSource(seed)))
		b := spare(p.bytes())
		before := slices.Clone(b[:cap(b)])
		r := put(b, b[:len(b)/2], b)
		got(t, "all", r, 65536, p.out, api.OK)
		r.Put(b)
		for _, n := range []int{-1, 0, 1, len(p.out), len(p.out) + 1} {
			All(b, n)
		}
		if !slices.Equal(b[:cap(b)], before) {
			t.Errorf("%x turned to %x", head(before), head(b[:cap(b)]))
		}
	}
	p := long(100000)
	b := spare(p.bytes())
	before := slices.Clone(b[:cap(b)])
	unpacks(t, "long", b, p.out, len(b), api.OK)
	if !slices.Equal(b[:cap(b)], before) {
		t.Error("long data were changed")
	}
}

// R4: bytes that are handed in aren't kept as they are: turned over behind Put, they unpack to what they were.
func TestArgumentsAreNotKept(t *testing.T) {
	for seed := range int64(40) {
		p := anyPack(rand.New(rand.NewSource(seed)))
		b := p.bytes()
		for _, cut := range []int{len(b), len(b) / 2, len(b) / 3} {
			r := New()
			for _, of := range [][]byte{b[:cut], b[cut:]} {
				piece := spare(of)
				r.Put(piece)
				turn(piece)
			}
			got(t, "turned over", r, 65536, p.out, api.OK)
			stands(t, "turned over", r, true, 0)
		}
	}
	p := long(100000)
	b := spare(p.bytes())
	r := put(b)
	got(t, "the first byte", r, 1, p.out[:1], api.OK)
	turn(b)
	got(t, "the next bytes", r, 65536, p.out[1:65537], api.OK)
}

// R4: what is answered is new: turned over, spare room included, it changes neither what copies bring later on, nor another answer, nor what was handed in.
func TestAnswersAreNew(t *testing.T) {
	p := long(100000)
	b := p.bytes()
	before := slices.Clone(b)
	for _, n := range []int{1, 100, 40000, 65536} {
		r, at := put(b), 0
		var kept []byte
		for !r.Done() {
			out, e := r.Get(n)
			same(t, "turned over", out, p.out[at:at+len(out)], e, api.OK)
			if !slices.Equal(kept, p.out[at-len(kept):at]) {
				t.Fatal("an earlier answer has changed")
			}
			turn(kept)
			kept, at = out, at+len(out)
		}
	}
	out, _, _ := All(b, 1<<24)
	again, _, _ := All(b, 1<<24)
	turn(again)
	if !slices.Equal(out, p.out) || !slices.Equal(b, before) {
		t.Error("All's answers share memory")
	}
	one := []byte{1, 1, 0, 254, 255, 'a'}
	out, _, _ = All(one, 1)
	turn(out)
	if one[5] != 'a' {
		t.Error("All's answer shares the argument's memory")
	}
}

// R5: what is answered hangs on the arguments, and on what the object has been through, alone: unpackers don't touch one another, and tell the same again.
func TestReadersStandAlone(t *testing.T) {
	p, q := long(70000), long(90000)
	for _, n := range []int{1000, 33000, 65536} {
		first, second, third := put(p.bytes()), put(q.bytes()), New()
		bad := put([]byte{7})
		b := p.bytes()
		for at := 0; at < len(p.out); at += n {
			want := p.out[at:min(len(p.out), at+n)]
			what := fmt.Sprintf("at %d", at)
			got(t, what, first, n, want, api.OK)
			got(t, what, second, n, q.out[at:min(len(q.out), at+n)], api.OK)
			got(t, what, bad, n, nil, api.ErrData)
			third.Put(b)
			b = nil
			third.Done()
			third.Rest()
			third.Held()
			got(t, what, third, n, want, api.OK)
		}
		stands(t, "the first", first, true, 0)
		stands(t, "the third", third, true, 0)
		stands(t, "the bad", bad, false, 0)
	}
}
