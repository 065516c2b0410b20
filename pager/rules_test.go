package pager

import (
	"bytes"
	"fmt"
	"math/rand"
	"slices"
	"strings"
	"sync"
	"testing"

	"inquest/api"
	"inquest/vfs"
)

// R1, R2: whatever is handed in, each call ends, with what the chapter tells, or with the error.
func TestAnyArguments(t *testing.T) {
	x := rand.New(rand.NewSource(1))
	f, p := with(t, 3000, 10)
	number := func() int {
		switch x.Intn(4) {
		case 0:
			return int(x.Uint64())
		case 1:
			return far[x.Intn(len(far))]
		case 2:
			return x.Intn(70000) - 1000
		}
		return x.Intn(14) - 2
	}
	taken := map[int]bool{}
	for i := range 20000 {
		no, k, b := number(), number(), drawn(x, []int{0, 1, 508, 509, x.Intn(700)}[x.Intn(5)])
		is := no >= 0 && no < 10
		want := api.OK
		switch {
		case !is || no == 0:
			want = api.ErrArg
		case len(b) > 508:
			want = api.ErrLong
		}
		check(t, step{p.Write(no, b), want})
		if want == api.OK {
			reads(t, p, no, b)
			taken[no] = true
		}
		want = api.ErrArg
		long := 0
		if is {
			want, long = api.OK, 508
		}
		if out, e := p.Read(no); e != want || len(out) != long {
			t.Errorf("Read(%d): %d bytes, %v", no, len(out), e)
		}
		if k < 0 || k > 7 {
			want = api.ErrArg
		}
		check(t, step{p.SetRoot(k, no), want})
		if want == api.OK && p.Root(k) != no || want != api.OK && (k < 0 || k > 7) && p.Root(k) != 0 {
			t.Errorf("SetRoot(%d, %d): %d", k, no, p.Root(k))
		}
		if !is || no == 0 {
			check(t, step{p.Free(no), api.ErrArg})
		}
		if i%1000 == 0 {
			ok(t, p.Commit())
		}
	}
	if len(taken) != 9 || p.Many() != 10 {
		t.Error(taken, p.Many())
	}
	ok(t, p.Commit())
	opened(t, f, "a")
}

// R1, R5: any names are taken, or told that they aren't right.
func TestAnyNames(t *testing.T) {
	x := rand.New(rand.NewSource(2))
	letters := "abcdefghijklmnopqrstuvwxyz0123456789.-/"
	for c := range 256 {
		want := api.ErrArg
		if bytes.IndexByte([]byte(letters), byte(c)) >= 0 {
			want = api.OK
		}
		for _, name := range []string{string([]byte{byte(c)}), string([]byte{'a', byte(c)}), string([]byte{byte(c), 'a'})} {
			if _, e := Open(vfs.New(100), name); e != want {
				t.Errorf("%q: %v, wanted %v", name, e, want)
			}
		}
	}
	for range 500 {
		b := make([]byte, x.Intn(26))
		for i := range b {
			b[i] = letters[x.Intn(len(letters))]
		}
		want := api.OK
		if len(b) < 1 || len(b) > 20 {
			want = api.ErrArg
		}
		if _, e := Open(vfs.New(100), string(b)); e != want {
			t.Errorf("%q: %v, wanted %v", b, e, want)
		}
	}
}

// R1, R2: any bytes as page 0, or as the journal, are opened, or told why not.
func TestAnyFiles(t *testing.T) {
	x := rand.New(rand.NewSource(3))
	for range 3000 {
		many := 1 + x.Intn(3)
		b := drawn(x, 512*many)
		page0 := headed(many, x.Intn(many), [8]int{x.Intn(many)})
		if x.Intn(2) == 0 {
			page0[x.Intn(508)] = byte(x.Intn(256))
		}
		copy(b, stands(0, page0))
		f := logged(b, drawn(x, x.Intn(3)*x.Intn(600)))
		p, e := Open(f, "a")
		if (p == nil) != (e != api.OK) || e != api.OK && e != api.ErrForm {
			t.Errorf("%x: %v", b, e)
		}
		if p == nil {
			continue
		}
		if p.Many() != many {
			t.Error(p.Many())
		}
		for range 5 {
			p.Frees()
			p.Alloc()
			p.Read(x.Intn(many))
		}
		ok(t, p.Commit())
	}
}

// R3: nil and empty bytes are one; no free pages are an empty list.
func TestNilIsEmpty(t *testing.T) {
	fs, ps := twins(t)
	for no := -1; no < 32; no++ {
		check(t, step{ps[0].Write(no, nil), ps[1].Write(no, []byte{})})
	}
	ok(t, ps[0].Commit(), ps[1].Commit())
	if picture(fs[0]) != picture(fs[1]) || view(ps[0]) != view(ps[1]) {
		t.Error("others")
	}
	_, p := with(t, 100, 2)
	if l, e := p.Frees(); len(l) != 0 || e != api.OK {
		t.Error(l, e)
	}
}

// roomy is b, with room behind it that is filled, so that it is seen if that is read, or written.
func roomy(b []byte) []byte {
	whole := append(slices.Clone(b), bytes.Repeat([]byte{0xaa}, 1000)...)
	return whole[:len(b)]
}

// spoil changes all of b, spare room included.
func spoil(b []byte) {
	b = b[:cap(b)]
	for i := range b {
		b[i] ^= 0x55
	}
}

// R4: what is handed in stays as it was, spare room included, is no more than its length tells, and may change behind the call without changing a page.
func TestArgumentsStay(t *testing.T) {
	f, p := with(t, 1000, 4)
	for _, n := range []int{0, 1, 100, 507, 508, 509} {
		b := bytes.Repeat([]byte{byte(n), 7}, 255)[:n]
		in := roomy(b)
		before := slices.Clone(in[:cap(in)])
		for _, no := range []int{2, 0, -1, 4} {
			p.Write(no, in)
		}
		if !bytes.Equal(in[:cap(in)], before) {
			t.Errorf("%x became %x", before, in[:cap(in)])
		}
		spoil(in)
		if n > 508 {
			continue
		}
		reads(t, p, 2, b)
		spoil(in)
		ok(t, p.Commit())
		spoil(in)
		reads(t, p, 2, b)
		reads(t, opened(t, f, "a"), 2, b)
		if !bytes.Equal(whole(f, "a.db")[1024:1536], stands(2, b)) {
			t.Errorf("%d bytes: the file has others", n)
		}
	}
}

// R4: what is answered is nobody else's: what is done with it, spare room included, bears on no page, no other answer, and no file.
func TestAnswersAreNew(t *testing.T) {
	f, p := with(t, 1000, 8)
	ok(t, p.Free(5), p.Free(6), p.Commit())
	ok(t, p.Write(1, []byte("changed")), p.Free(7))
	before := picture(f)
	want := state{[][]byte{full([]byte("changed")), full(fours(2, 2)), full(fours(3, 3)), full(fours(4, 4)), full(nil), full(fours(5)), full(fours(6))}, []int{7, 6, 5}, [8]int{}}
	for range 3 {
		for no := range 8 {
			// The second one is of a page that is held, whichever it is.
			one, _ := p.Read(no)
			two, _ := p.Read(no)
			spoil(one)
			if !bytes.Equal(two, want.page(no)) {
				t.Errorf("page %d: %x, wanted %x", no, two, want.page(no))
			}
			spoil(two)
			_ = append(two[:len(two):cap(two)], 1, 2, 3)
			reads(t, p, no, want.page(no))
		}
		one, _ := p.Frees()
		two, _ := p.Frees()
		for i := range one[:cap(one)] {
			one[:cap(one)][i] = -7
		}
		if !slices.Equal(two, []int{7, 6, 5}) {
			t.Error(two)
		}
		has(t, p, want)
	}
	if after := picture(f); after != before {
		t.Errorf("%s, it was %s", after, before)
	}
	ok(t, p.Commit())
	committed(t, f, "a", want)
}

// R4: bytes of the store that are handed out stay apart from what a pager keeps.
func TestFilesStayApart(t *testing.T) {
	f, p := with(t, 1000, 4)
	b, _ := f.Read("a.db", 0, 2048)
	reads(t, p, 2, fours(2, 2))
	spoil(b)
	reads(t, p, 2, fours(2, 2))
	reads(t, p, 3, fours(3, 3))
}

// script is what a pager answers, and what stands in its store, through a life that is drawn.
func script(seed int64) string {
	x := rand.New(rand.NewSource(seed))
	f := vfs.New(2000)
	p, e := Open(f, "a")
	var s strings.Builder
	fmt.Fprint(&s, e)
	for range 200 {
		no := x.Intn(p.Many() + 2)
		switch x.Intn(10) {
		case 0, 1, 2:
			fmt.Fprint(&s, no)
			no, e = p.Alloc()
			fmt.Fprint(&s, no, e)
		case 3:
			fmt.Fprint(&s, p.Write(no, drawn(x, x.Intn(510))))
		case 4:
			fmt.Fprint(&s, p.Free(no))
		case 5:
			fmt.Fprint(&s, p.SetRoot(x.Intn(9), no))
		case 6:
			l, e := p.Frees()
			fmt.Fprint(&s, l, e)
		case 7:
			fmt.Fprint(&s, p.Commit())
			s.Write(whole(f, "a.db"))
		case 8:
			fmt.Fprint(&s, p.Abort(), p.Changed())
		default:
			b, e := p.Read(no)
			s.Write(b)
			fmt.Fprint(&s, e)
		}
		fmt.Fprint(&s, " ", p.Reads(), f.Room(), f.Stamp("a.db"), ";")
	}
	f.Fuse(x.Intn(20))
	fmt.Fprint(&s, p.Write(1, nil), p.Commit())
	f.Crash(x.Uint64())
	s.Write(whole(f, "a.db"))
	s.Write(whole(f, "a.log"))
	return s.String()
}

// R5: the same life has the same answers, and the same files, whatever else goes on.
func TestSameAgain(t *testing.T) {
	for seed := range int64(20) {
		want := script(seed)
		for range 3 {
			if got := script(seed); got != want {
				t.Errorf("life %d: another one", seed)
			}
		}
	}
}

// R5: two pagers of one store, or of two, don't touch.
func TestTwoPagers(t *testing.T) {
	x := rand.New(rand.NewSource(5))
	f := vfs.New(20000)
	names := []string{"a", "b", "a.db", "a.log", "a/b"}
	var ps []*Pager
	var ms []*told
	for _, name := range names {
		ps, ms = append(ps, opened(t, f, name)), append(ms, newTold())
	}
	for range 1500 {
		i := x.Intn(len(ps))
		one(t, x, ps[i], ms[i])
		switch x.Intn(20) {
		case 0:
			ok(t, ps[i].Commit())
			ms[i].commit()
		case 1:
			ok(t, ps[i].Abort())
			ms[i].abort()
		}
	}
	for i, p := range ps {
		has(t, p, ms[i].now)
		has(t, opened(t, f, names[i]), ms[i].last)
		committed(t, f, names[i], ms[i].last)
	}
}

// R5: pagers of several stores may be worked with at once.
func TestAtOnce(t *testing.T) {
	var wants []string
	for seed := range int64(4) {
		wants = append(wants, script(seed))
	}
	var every sync.WaitGroup
	for i := range 8 {
		every.Go(func() {
			if got := script(int64(i % 4)); got != wants[i%4] {
				t.Errorf("life %d: another one", i%4)
			}
		})
	}
	every.Wait()
}
