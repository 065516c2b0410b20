package page

import (
	"bytes"
	"math/rand"
	"slices"
	"sync"
	"testing"

	"inquest/api"
)

// R1, R2: any numbers and any bytes are taken, or told why not.
func TestAnyArguments(t *testing.T) {
	x := rand.New(rand.NewSource(21))
	numbers := slices.Concat(edges, beyond)
	for range 20000 {
		no := numbers[x.Intn(len(numbers))]
		switch x.Intn(3) {
		case 0:
			no = x.Intn(1 << 24)
		case 1:
			no = int(x.Uint64())
		}
		b := drawn(x, []int{0, 1, 507, 508, 509, 511, 512, 513, x.Intn(700)}[x.Intn(9)])
		want := api.OK
		switch {
		case no < 0 || no >= 1<<24:
			want = api.ErrArg
		case len(b) > 508:
			want = api.ErrLong
		}
		if want == api.OK {
			asModel(t, no, b)
		} else {
			sealsNot(t, "any bytes", no, b, want)
		}
		switch {
		case want == api.ErrArg:
		case len(b) != 512:
			want = api.ErrSize
		default:
			want = api.ErrSum
		}
		opensNot(t, "any bytes", no, b, want)
	}
}

// R3: nil and empty bytes are one.
func TestNilIsEmpty(t *testing.T) {
	for _, no := range slices.Concat(edges, beyond) {
		p, e := Seal(no, nil)
		if q, f := Seal(no, []byte{}); f != e || !bytes.Equal(p, q) {
			t.Errorf("Seal(%d): %v and %v", no, e, f)
		}
		_, e = Open(no, nil)
		if _, f := Open(no, []byte{}); f != e {
			t.Errorf("Open(%d): %v and %v", no, e, f)
		}
	}
}

// roomy is b, with room behind it that is filled, so that it is seen if that is read, or written.
func roomy(b []byte) []byte {
	whole := append(slices.Clone(b), bytes.Repeat([]byte{0xaa}, 1000)...)
	return whole[:len(b)]
}

// spoil changes all of b, spare room included.
func spoil(b []byte) {
	b = b[:cap(b)]
	for i := range b {
		b[i] ^= 0x55
	}
}

// R4: what is handed in stays as it was, spare room included, whether it is right or not; and what stands in that room is no part of it.
func TestArgumentsStay(t *testing.T) {
	wrong := stands(5, rising(508))
	wrong[3]++
	for _, no := range []int{5, 0, -1, 1<<24 - 1, 1 << 24} {
		for _, b := range [][]byte{{}, {1}, rising(507), rising(508), rising(509), stands(no, rising(508)), stands(no, nil), wrong, make([]byte, 513)} {
			in := roomy(b)
			before := slices.Clone(in[:cap(in)])
			for range 2 {
				p, e := Seal(no, in)
				q, f := Seal(no, b)
				if e != f || !bytes.Equal(p, q) {
					t.Errorf("Seal(%d, %d bytes): by what is behind them %x, %v, wanted %x, %v", no, len(b), p, e, q, f)
				}
				spoil(p)
				p, e = Open(no, in)
				q, f = Open(no, b)
				if e != f || !bytes.Equal(p, q) {
					t.Errorf("Open(%d, %d bytes): by what is behind them %x, %v, wanted %x, %v", no, len(b), p, e, q, f)
				}
				spoil(p)
			}
			if !bytes.Equal(in[:cap(in)], before) {
				t.Errorf("under %d: %x became %x", no, before, in[:cap(in)])
			}
		}
	}
}

// R4: what is handed in may change behind the call without changing what was answered.
func TestArgumentsAreNotKept(t *testing.T) {
	for no, b := range pages() {
		want := stands(no, b)
		in := roomy(b)
		p := sealed(t, no, in)
		spoil(in)
		if !bytes.Equal(p, want) {
			t.Errorf("Seal(%d): became %x, wanted %x", no, p, want)
		}
		in = roomy(want)
		out, e := Open(no, in)
		spoil(in)
		if e != api.OK || !bytes.Equal(out, want[:508]) {
			t.Errorf("Open(%d): became %x, %v, wanted %x", no, out, e, want[:508])
		}
	}
}

// R4: what is answered is nobody else's: what is done with it, spare room included, bears on no other answer, and on no argument.
func TestAnswersAreNew(t *testing.T) {
	for no, b := range pages() {
		want := stands(no, b)
		p, q := sealed(t, no, b), sealed(t, no, b)
		out, _ := Open(no, p)
		other, _ := Open(no, p)
		spoil(q)
		spoil(other)
		_ = append(out[:len(out):cap(out)], 1, 2, 3, 4)
		if !bytes.Equal(p, want) || !bytes.Equal(out, want[:508]) {
			t.Errorf("under %d: %x, and %x, wanted %x", no, p, out, want)
		}
		asModel(t, no, b)
		spoil(out)
		if !bytes.Equal(p, want) {
			t.Errorf("under %d: %x, wanted %x", no, p, want)
		}
		spoil(p)
		asModel(t, no, b)
	}
}

// R5: the same again, whatever was asked for in between, errors too.
func TestSameAgain(t *testing.T) {
	for range 50 {
		for no, b := range pages() {
			asModel(t, no, b)
			sealsNot(t, "in between", -1, b, api.ErrArg)
			sealsNot(t, "in between", no, rising(509), api.ErrLong)
			opensNot(t, "in between", no+1<<24, stands(no, b), api.ErrArg)
			opensNot(t, "in between", no, stands(no, b)[1:], api.ErrSize)
			opensNot(t, "in between", no^1, stands(no, b), api.ErrSum)
			asModel(t, no, b)
		}
	}
}

// R5: several pages may be sealed and opened at once, from the same bytes, too.
func TestAtOnce(t *testing.T) {
	list := pages()
	var every sync.WaitGroup
	for range 8 {
		every.Go(func() {
			for range 50 {
				for no, b := range list {
					p, e := Seal(no, b)
					out, f := Open(no, p)
					if want := stands(no, b); e != api.OK || f != api.OK || !bytes.Equal(p, want) || !bytes.Equal(out, want[:508]) {
						t.Errorf("under %d: %x, %v, and %x, %v", no, p, e, out, f)
					}
				}
			}
		})
	}
	every.Wait()
}
