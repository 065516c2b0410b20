package wal

import (
	"bytes"
	"math"
	"math/rand"
	"slices"
	"sync"
	"testing"

	"inquest/api"
)

// R1, R2: any pages are taken, or told that they are none.
func TestAnyPages(t *testing.T) {
	x := rand.New(rand.NewSource(21))
	some := slices.Concat(edges, beyond)
	taken := 0
	for range 20000 {
		var l []api.Write
		for range x.Intn(4) {
			one := api.Write{No: x.Intn(1 << 24), B: drawn(x, 512)}
			switch x.Intn(6) {
			case 0:
				one.No = some[x.Intn(len(some))]
			case 1:
				one.No = int(x.Uint64())
			case 2:
				one.B = unpaged[x.Intn(len(unpaged))]
			}
			l = append(l, one)
		}
		if isBatch(l) {
			taken++
			asModel(t, l...)
		} else {
			putsNot(t, "any pages", l...)
		}
	}
	if taken < 2000 {
		t.Errorf("only %d were batches", taken)
	}
}

// R1, R2: any bytes are read, or told why not; any number has a size.
func TestAnyBytes(t *testing.T) {
	x := rand.New(rand.NewSource(22))
	for range 20000 {
		b := drawn(x, x.Intn(700))
		copy(b, "iqj1"[:x.Intn(5)])
		if x.Intn(2) == 0 && len(b) > 8 {
			copy(b[4:], four(x.Intn(3)))
		}
		if want, e := read(b); e == api.OK {
			gets(t, "any bytes", b, want...)
		} else {
			getsNot(t, "any bytes", b, e)
		}
		n := int(x.Uint64())
		if x.Intn(2) == 0 {
			n = x.Intn(12288) - 4096
		}
		want := 0
		if n >= 0 && n <= 4096 {
			want = 12 + 516*n
		}
		if got := Size(n); got != want {
			t.Errorf("Size(%d): %d, wanted %d", n, got, want)
		}
	}
}

// R3: nil and empty lists, and nil and empty bytes, are one.
func TestNilIsEmpty(t *testing.T) {
	b, e := Put(nil...)
	if c, f := Put([]api.Write{}...); e != f || !bytes.Equal(b, c) {
		t.Errorf("%x, %v, and %x, %v", b, e, c, f)
	}
	for _, no := range slices.Concat(edges, beyond) {
		putsNot(t, "nil", api.Write{No: no})
		putsNot(t, "no bytes", api.Write{No: no, B: []byte{}})
	}
	_, e = Get(nil)
	if _, f := Get([]byte{}); e != f {
		t.Errorf("%v and %v", e, f)
	}
	gets(t, "of no pages", b)
}

// roomy is b, with room behind it that is filled, so that it is seen if that is read, or written.
func roomy(b []byte) []byte {
	whole := append(slices.Clone(b), bytes.Repeat([]byte{0xaa}, 1000)...)
	return whole[:len(b)]
}

// roomyList is l, each page roomy, with room behind it for pages, that is filled with such as would be in order.
func roomyList(l []api.Write) []api.Write {
	var whole []api.Write
	for _, w := range l {
		whole = append(whole, api.Write{No: w.No, B: roomy(w.B)})
	}
	for i := range 5 {
		whole = append(whole, api.Write{No: 1<<24 - 5 + i, B: roomy(alike(9))})
	}
	return slices.Clip(whole)[:len(l)]
}

// spoil changes all of b, spare room included.
func spoil(b []byte) {
	b = b[:cap(b)]
	for i := range b {
		b[i] ^= 0x55
	}
}

// spoilList changes all of l, and of what it has, spare room included.
func spoilList(l []api.Write) {
	l = l[:cap(l)]
	for i := range l {
		spoil(l[i].B)
		l[i] = api.Write{No: -7, B: []byte{1, 2, 3}}
	}
}

// lists are some that are batches, and some that aren't.
func lists() [][]api.Write {
	return append(batches(), under(3, 3), under(9, 3), under(-1), under(3, 1<<24), []api.Write{{No: 4}}, []api.Write{{No: 4, B: make([]byte, 513)}, {No: 3, B: alike(2)}}, row(4097, 0, 1))
}

// deep is l and all that it has, spare room included, as a copy.
func deep(l []api.Write) []api.Write {
	var out []api.Write
	for _, w := range l[:cap(l)] {
		out = append(out, api.Write{No: w.No, B: slices.Clone(w.B[:cap(w.B)])})
	}
	return out
}

// R4: the pages that are handed in stay as they were, spare room included, whether they are a batch or not; and what stands in that room is no part of them.
func TestPagesStay(t *testing.T) {
	for _, l := range lists() {
		in := roomyList(l)
		headers, before := slices.Clone(in[:cap(in)]), deep(in)
		for range 2 {
			b, e := Put(in...)
			c, f := Put(l...)
			if e != f || !bytes.Equal(b, c) {
				t.Errorf("Put of %d pages (%v): by what is behind them %x, %v, wanted %x, %v", len(l), numbers(l), b, e, c, f)
			}
			spoil(b)
		}
		for i, w := range in[:cap(in)] {
			if w.No != before[i].No || !bytes.Equal(w.B[:cap(w.B)], before[i].B) || len(w.B) != len(headers[i].B) || cap(w.B) != cap(headers[i].B) || &w.B[:1][0] != &headers[i].B[:1][0] {
				t.Errorf("page %d of %v changed", i, numbers(l))
			}
		}
	}
}

// R4: the bytes that are handed in stay as they were, spare room included, whether they are a batch or not; and what stands in that room is no part of them.
func TestBytesStay(t *testing.T) {
	for _, l := range lists() {
		whole := stands(l)
		for _, b := range [][]byte{whole, whole[:len(whole)-1], whole[:5], append(bytes.Clone(whole), 1, 2, 3), whole[1:], append(bytes.Clone(whole[:len(whole)-1]), 0)} {
			in := roomy(b)
			before := slices.Clone(in[:cap(in)])
			for range 2 {
				p, e := Get(in)
				q, f := Get(b)
				if e != f || !same(p, q) {
					t.Errorf("Get of %d bytes: by what is behind them %v, %v, wanted %v, %v", len(b), numbers(p), e, numbers(q), f)
				}
				spoilList(p)
			}
			if !bytes.Equal(in[:cap(in)], before) {
				t.Errorf("Get of %d bytes changed them", len(b))
			}
		}
	}
}

// R4: what is handed in may change behind the call without changing what was answered.
func TestArgumentsAreNotKept(t *testing.T) {
	for _, l := range batches() {
		want := stands(l)
		in := roomyList(l)
		b := puts(t, in...)
		spoilList(in)
		if !bytes.Equal(b, want) {
			t.Errorf("Put of %d pages (%v): became %x, wanted %x", len(l), numbers(l), b, want)
		}
		raw := roomy(want)
		got, e := Get(raw)
		spoil(raw)
		if e != api.OK || !same(got, l) {
			t.Errorf("Get: became %v, %v, wanted %v", numbers(got), e, numbers(l))
		}
	}
}

// R4: what is answered is nobody else's: what is done with it, spare room included, bears on no other answer, and on no argument.
func TestAnswersAreNew(t *testing.T) {
	for _, l := range batches() {
		want := stands(l)
		b, c := puts(t, l...), puts(t, l...)
		got, _ := Get(b)
		other, _ := Get(b)
		spoil(c)
		spoilList(other)
		_ = append(got[:len(got):cap(got)], api.Write{No: -1})
		if !bytes.Equal(b, want) || !same(got, l) {
			t.Errorf("%d pages (%v) became %x, and %v", len(l), numbers(l), b, numbers(got))
		}
		spoil(b)
		if !same(got, l) {
			t.Errorf("%v, wanted %v", numbers(got), numbers(l))
		}
		asModel(t, l...)
	}
}

// R4: no two pages that are got share their bytes, spare room included, be they the same or not.
func TestPagesAreApart(t *testing.T) {
	p := steps()
	for _, l := range append(batches(), []api.Write{{No: 3, B: p}, {No: 9, B: p}, {No: 10, B: p}}) {
		for at := range l {
			got, _ := Get(puts(t, l...))
			spoil(got[at].B)
			_ = append(got[at].B, alike(7)...)
			for i, w := range got {
				if i != at && !bytes.Equal(w.B, l[i].B) {
					t.Errorf("page %d of %v changed with page %d", i, numbers(l), at)
				}
			}
		}
		asModel(t, l...)
	}
}

// R5: the same again, whatever was asked for in between, errors too.
func TestSameAgain(t *testing.T) {
	for range 20 {
		for _, l := range batches() {
			asModel(t, l...)
			putsNot(t, "in between", append(slices.Clone(l), under(-1)...)...)
			putsNot(t, "in between", under(9, 3)...)
			b := stands(l)
			getsNot(t, "in between", b[:len(b)-1], api.ErrEnd)
			getsNot(t, "in between", b[1:], api.ErrForm)
			b[len(b)-1]++
			getsNot(t, "in between", b, api.ErrSum)
			getsNot(t, "in between", stands(under(9, 3)), api.ErrForm)
			if n := Size(math.MaxInt); n != 0 {
				t.Error(n)
			}
			asModel(t, l...)
		}
	}
}

// R5: several may be put and got at once, from the same pages and bytes, too.
func TestAtOnce(t *testing.T) {
	list := batches()
	var every sync.WaitGroup
	for range 8 {
		every.Go(func() {
			for range 20 {
				for _, l := range list {
					b, e := Put(l...)
					got, f := Get(b)
					if want := stands(l); e != api.OK || f != api.OK || !bytes.Equal(b, want) || !same(got, l) || Size(len(l)) != len(want) {
						t.Errorf("%v: %x, %v, and %v, %v", numbers(l), b, e, numbers(got), f)
					}
				}
			}
		})
	}
	every.Wait()
}
