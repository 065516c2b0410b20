package pager

import (
	"bytes"
	"math"
	"slices"
	"testing"

	"inquest/api"
	"inquest/vfs"
)

// step is what a call answered, and what it should have.
type step struct{ got, want api.Errno }

// check holds steps, which were done in their order, against what was wanted.
func check(t *testing.T, l ...step) {
	t.Helper()
	for i, s := range l {
		if s.got != s.want {
			t.Errorf("step %d: %v, wanted %v", i, s.got, s.want)
		}
	}
}

// ok tells where a step wasn't done.
func ok(t *testing.T, l ...api.Errno) {
	t.Helper()
	for i, e := range l {
		if e != api.OK {
			t.Errorf("step %d: %v", i, e)
		}
	}
}

// allocs takes these pages, one behind the other.
func allocs(t *testing.T, p *Pager, l ...int) {
	t.Helper()
	for _, want := range l {
		if no, e := p.Alloc(); no != want || e != api.OK {
			t.Errorf("Alloc: %d, %v, wanted %d", no, e, want)
		}
	}
}

// reads tells where the page hasn't these bytes, filled with zeros.
func reads(t *testing.T, p *Pager, no int, b []byte) {
	t.Helper()
	if got, e := p.Read(no); e != api.OK || !bytes.Equal(got, full(b)) {
		t.Errorf("Read(%d): %x, %v, wanted %x", no, got, e, full(b))
	}
}

// frees tells where these aren't the free pages.
func frees(t *testing.T, p *Pager, want ...int) {
	t.Helper()
	if l, e := p.Frees(); e != api.OK || !slices.Equal(l, want) {
		t.Errorf("Frees: %v, %v, wanted %v", l, e, want)
	}
}

// with is a pager named a of so many pages, which have their numbers twice, committed, in a store of so many sectors.
func with(t *testing.T, sectors, many int) (*vfs.FS, *Pager) {
	t.Helper()
	f := vfs.New(sectors)
	p := opened(t, f, "a")
	for no := 1; no < many; no++ {
		allocs(t, p, no)
		ok(t, p.Write(no, fours(no, no)))
	}
	ok(t, p.Commit())
	return f, p
}

// counts tells where the pager counts other reads than so many more behind what is done.
func counts(t *testing.T, p *Pager, more int, do func()) {
	t.Helper()
	before := p.Reads()
	do()
	if n := p.Reads() - before; n != more {
		t.Errorf("%d reads more, wanted %d", n, more)
	}
}

var far = []int{math.MinInt, math.MinInt + 1, -1 << 55, -1 << 32, -512, -2, -1, 1 << 16, 1 << 23, 1 << 24, 1 << 32, 1 << 55, math.MaxInt - 1, math.MaxInt}

// P17.1, P17.2: the example of the chapter: opened anew, the page is there.
func TestExample(t *testing.T) {
	f := vfs.New(100)
	p := opened(t, f, "cat")
	allocs(t, p, 1)
	ok(t, p.Write(1, []byte("a page")), p.Commit())
	q := opened(t, f, "cat")
	reads(t, q, 1, []byte("a page"))
	if q.Many() != 2 || q.Changed() {
		t.Error(q.Many(), q.Changed())
	}
}

// P17.1: a new pager has page 0 alone, no free page, and roots of 0; its sum was worked out beside the program.
func TestNew(t *testing.T) {
	for _, name := range []string{"a", "0", ".", "-", "/", "cat", "a/b-c.d", "abcdefghijklmnopqrst", "uvwxyz0123456789.-/a"} {
		f := vfs.New(100)
		p := opened(t, f, name)
		if p.Many() != 1 || p.Changed() || p.Reads() != 0 {
			t.Errorf("%q: %d pages, changed %v, %d reads", name, p.Many(), p.Changed(), p.Reads())
		}
		has(t, p, state{})
		want := append(full([]byte("iqdb\x01")), 0xba, 0xa2, 0x1e, 0xbb)
		if b := whole(f, name+".db"); !bytes.Equal(b, want) {
			t.Errorf("%q: %x", name, b)
		}
		committed(t, f, name, state{})
		if l := f.Names(""); !slices.Equal(l, []string{name + ".db", name + ".log"}) {
			t.Error(l)
		}
	}
}

// P17.1, P17.2: what stands in name.db behind commits; the sums were worked out beside the program.
func TestBytes(t *testing.T) {
	f := vfs.New(100)
	p := opened(t, f, "a")
	allocs(t, p, 1, 2)
	ok(t, p.Write(1, []byte("abc")), p.Write(2, []byte{9, 8}), p.SetRoot(0, 2), p.Commit())
	page1 := append(full([]byte("abc")), 0xc1, 0x85, 0x9d, 0x86)
	want := slices.Concat(full([]byte("iqdb\x03\x00\x00\x00\x00\x00\x00\x00\x02")), []byte{0x64, 0x17, 0x63, 0xd0}, page1, full([]byte{9, 8}), []byte{0xdf, 0x1c, 0xe7, 0x6d})
	if b := whole(f, "a.db"); !bytes.Equal(b, want) {
		t.Errorf("%x, wanted %x", b, want)
	}
	ok(t, p.Free(2), p.Free(1), p.Commit())
	want = slices.Concat(full([]byte("iqdb\x03\x00\x00\x00\x01\x00\x00\x00\x02")), []byte{0x58, 0xf5, 0x18, 0x35}, full([]byte{2}), []byte{0x53, 0x21, 0xb1, 0xf6}, full(nil), []byte{0x28, 0xc3, 0x4f, 0x92})
	if b := whole(f, "a.db"); !bytes.Equal(b, want) {
		t.Errorf("%x, wanted %x", b, want)
	}
}

// P17.1: Alloc gives new pages one behind the other, and they have zeros.
func TestAlloc(t *testing.T) {
	_, p := with(t, 5000, 1)
	for no := 1; no < 300; no++ {
		allocs(t, p, no)
		reads(t, p, no, nil)
		ok(t, p.Write(no, []byte{byte(no)}))
	}
	if p.Many() != 300 {
		t.Error(p.Many())
	}
	ok(t, p.Commit())
	allocs(t, p, 300)
	reads(t, p, 299, []byte{43})
}

// P17.1: Alloc gives the page that was freed last, ahead of the others, and only then a new one; it has zeros, whatever was there.
func TestAllocOfFree(t *testing.T) {
	for _, between := range []func(*Pager) api.Errno{func(*Pager) api.Errno { return api.OK }, (*Pager).Commit} {
		f, p := with(t, 5000, 6)
		frees(t, p)
		ok(t, p.Free(2), p.Free(5), p.Free(3), between(p))
		frees(t, p, 3, 5, 2)
		allocs(t, p, 3)
		reads(t, p, 3, nil)
		frees(t, p, 5, 2)
		ok(t, p.Free(1), between(p))
		frees(t, p, 1, 5, 2)
		allocs(t, p, 1, 5, 2)
		frees(t, p)
		for _, no := range []int{1, 2, 3, 5} {
			reads(t, p, no, nil)
		}
		reads(t, p, 4, fours(4, 4))
		allocs(t, p, 6, 7)
		ok(t, p.Free(7), p.Free(6), p.Commit())
		q := opened(t, f, "a")
		frees(t, q, 6, 7)
		allocs(t, q, 6, 7, 8)
	}
}

// P17.1: there are 65536 pages at most; free ones are given also then.
func TestMostPages(t *testing.T) {
	_, p := with(t, 100, 2)
	for no := 2; no < 65536; no++ {
		if got, e := p.Alloc(); got != no || e != api.OK {
			t.Fatalf("%d, %v, wanted %d", got, e, no)
		}
	}
	for range 2 {
		if no, e := p.Alloc(); no != 0 || e != api.ErrFull || p.Many() != 65536 {
			t.Errorf("%d, %v, %d pages", no, e, p.Many())
		}
	}
	ok(t, p.Write(65535, []byte{7}), p.SetRoot(7, 65535))
	reads(t, p, 65535, []byte{7})
	check(t, step{p.Free(65536), api.ErrArg}, step{p.Free(65535), api.OK}, step{p.Free(1), api.OK})
	frees(t, p, 1, 65535)
	allocs(t, p, 1, 65535)
	if no, e := p.Alloc(); no != 0 || e != api.ErrFull {
		t.Errorf("%d, %v", no, e)
	}
	check(t, step{p.Commit(), api.ErrMany})
	if p.Many() != 2 || p.Changed() || p.Root(7) != 0 {
		t.Error(p.Many(), p.Changed(), p.Root(7))
	}
	allocs(t, p, 2)
}

// P17.1: a page has what was written, filled with zeros, whatever was there.
func TestWrite(t *testing.T) {
	f, p := with(t, 1000, 4)
	for _, n := range []int{508, 507, 1, 0, 100, 508} {
		b := bytes.Repeat([]byte{byte(n), 3}, 254)[:n]
		ok(t, p.Write(2, b))
		reads(t, p, 2, b)
		reads(t, p, 1, fours(1, 1))
		reads(t, p, 3, fours(3, 3))
		ok(t, p.Commit())
		reads(t, p, 2, b)
		reads(t, opened(t, f, "a"), 2, b)
	}
	ok(t, p.Write(3, nil), p.Write(1, []byte{}))
	reads(t, p, 3, nil)
	reads(t, p, 1, nil)
}

// P17.1: page 0 is read as it was changed; and a free one as it is told.
func TestReadOfHead(t *testing.T) {
	f, p := with(t, 1000, 3)
	reads(t, p, 0, headed(3, 0, [8]int{}))
	allocs(t, p, 3)
	reads(t, p, 0, headed(4, 0, [8]int{}))
	ok(t, p.Free(2), p.Free(1), p.SetRoot(1, 3))
	reads(t, p, 0, headed(4, 1, [8]int{1: 3}))
	reads(t, p, 1, fours(2))
	reads(t, p, 2, nil)
	reads(t, opened(t, f, "a"), 0, headed(3, 0, [8]int{}))
	ok(t, p.Commit())
	reads(t, p, 0, headed(4, 1, [8]int{1: 3}))
	reads(t, opened(t, f, "a"), 0, headed(4, 1, [8]int{1: 3}))
	allocs(t, p, 1)
	reads(t, p, 0, headed(4, 2, [8]int{1: 3}))
	ok(t, p.Abort())
	reads(t, p, 0, headed(4, 1, [8]int{1: 3}))
}

// P17.1: there are eight roots, each a page, or 0.
func TestRoots(t *testing.T) {
	f, p := with(t, 1000, 9)
	for k := range 8 {
		ok(t, p.SetRoot(k, 8-k))
	}
	ok(t, p.SetRoot(3, 0))
	want := [8]int{8, 7, 6, 0, 4, 3, 2, 1}
	lists(t, p, state{roots: want})
	ok(t, p.Commit())
	lists(t, opened(t, f, "a"), state{roots: want})
	for _, k := range append(far, 8, 9, 65535) {
		if p.Root(k) != 0 {
			t.Errorf("Root(%d): %d", k, p.Root(k))
		}
	}
	// A page that is free, or came with these changes, is there, too.
	allocs(t, p, 9)
	ok(t, p.Free(2), p.SetRoot(0, 9), p.SetRoot(1, 2))
	if p.Root(0) != 9 || p.Root(1) != 2 {
		t.Error(p.Root(0), p.Root(1))
	}
	ok(t, p.Abort())
	lists(t, p, state{roots: want})
}

// P17.2: Abort gives all changes since the last commit up, and no others.
func TestAbort(t *testing.T) {
	f, p := with(t, 1000, 5)
	ok(t, p.Free(4), p.SetRoot(2, 3), p.Commit())
	m := state{[][]byte{full(fours(1, 1)), full(fours(2, 2)), full(fours(3, 3)), full(nil)}, []int{4}, [8]int{2: 3}}
	for _, change := range []func(){
		func() {},
		func() { allocs(t, p, 4) },
		func() { allocs(t, p, 4, 5, 6) },
		func() { ok(t, p.Free(1), p.Free(3)) },
		func() { ok(t, p.Write(3, []byte{1})) },
		func() { ok(t, p.SetRoot(2, 0), p.SetRoot(7, 1)) },
		func() {
			allocs(t, p, 4, 5)
			ok(t, p.Free(5), p.Free(1), p.Write(2, []byte("2")), p.SetRoot(1, 5))
			allocs(t, p, 1)
		},
	} {
		for range 2 {
			change()
			ok(t, p.Abort())
			if p.Changed() {
				t.Error("changed")
			}
			has(t, p, m)
			committed(t, f, "a", m)
			ok(t, p.Commit())
			committed(t, f, "a", m)
		}
	}
}

// P17.2: whether something was changed since the last commit.
func TestChanged(t *testing.T) {
	_, p := with(t, 1000, 4)
	for i, change := range []func(){
		func() { allocs(t, p, 4) },
		func() { ok(t, p.Free(2)) },
		func() { allocs(t, p, 2) },
		func() { ok(t, p.Write(1, []byte{byte(p.Reads()), 99})) },
		func() { ok(t, p.SetRoot(0, 1)) },
		func() { ok(t, p.SetRoot(0, 0)) },
	} {
		for _, end := range []func() api.Errno{p.Abort, p.Commit} {
			if p.Changed() {
				t.Errorf("%d: changed ahead of it", i)
			}
			change()
			if !p.Changed() {
				t.Errorf("%d: not changed", i)
			}
			// What only asks, or tells an error, changes nothing, and takes nothing back.
			p.Read(1)
			p.Frees()
			p.Write(0, nil)
			if !p.Changed() {
				t.Errorf("%d: not changed any more", i)
			}
			ok(t, end())
		}
	}
	p.Read(1)
	p.Frees()
	p.Free(0)
	p.Write(77, nil)
	p.SetRoot(8, 0)
	p.Commit()
	if p.Changed() {
		t.Error("changed")
	}
}

// P17.2: reads are counted that go to the file; what is kept, or was changed, doesn't.
func TestReads(t *testing.T) {
	f, p := with(t, 2000, 20)
	for no := 1; no < 17; no++ {
		counts(t, p, 1, func() { reads(t, p, no, fours(no, no)) })
	}
	// All of these sixteen are kept, in whatever order they are asked for.
	counts(t, p, 0, func() {
		for no := 16; no > 0; no-- {
			reads(t, p, no, fours(no, no))
			reads(t, p, no, fours(no, no))
		}
	})
	// What was changed is held, and no more kept, also when that is given up.
	counts(t, p, 0, func() {
		ok(t, p.Write(3, []byte{1}))
		reads(t, p, 3, []byte{1})
	})
	ok(t, p.Abort())
	counts(t, p, 1, func() { reads(t, p, 3, fours(3, 3)) })
	counts(t, p, 0, func() { reads(t, p, 3, fours(3, 3)) })
	// What was committed isn't kept till it is read; what wasn't changed is.
	ok(t, p.Write(5, []byte{5}), p.Commit())
	counts(t, p, 1, func() { reads(t, p, 5, []byte{5}) })
	counts(t, p, 0, func() { reads(t, p, 4, fours(4, 4)) })
	// A pager that is opened anew has what page 0 tells from the file.
	q := opened(t, f, "a")
	if n := q.Reads(); n != 1 {
		t.Error(n)
	}
	counts(t, q, 0, func() { reads(t, q, 0, headed(20, 0, [8]int{})) })
}

// P17.2: at most 16 pages are kept; of those that may be, the last ones that were asked for.
func TestKept(t *testing.T) {
	for _, n := range []int{17, 18, 30, 60} {
		_, p := with(t, 2000, n+1)
		for no := 1; no <= n; no++ {
			counts(t, p, 1, func() { reads(t, p, no, fours(no, no)) })
		}
		for _, ahead := range []bool{true, false, false, true} {
			before := p.Reads()
			for i := range n {
				no := n - i
				if ahead {
					no = 1 + i
				}
				reads(t, p, no, fours(no, no))
			}
			if more := p.Reads() - before; more < n-16 {
				t.Errorf("%d pages: only %d reads", n, more)
			}
		}
		for no := 1; no < 17; no++ {
			reads(t, p, no, fours(no, no))
		}
		// The one that was asked for longest ago goes first: first 2, as 1 was asked for again.
		counts(t, p, 0, func() { reads(t, p, 1, fours(1, 1)) })
		counts(t, p, 1, func() { reads(t, p, 17, fours(17, 17)) })
		counts(t, p, 0, func() {
			for _, no := range []int{1, 17, 3, 4, 5, 16} {
				reads(t, p, no, fours(no, no))
			}
		})
		counts(t, p, 1, func() { reads(t, p, 2, fours(2, 2)) })
	}
}

// P17.2: what is kept is as it was read, and isn't read again, whatever becomes of the file; what isn't, is.
func TestKeptIsNotRead(t *testing.T) {
	f, p := with(t, 2000, 40)
	for no := 1; no < 17; no++ {
		reads(t, p, no, fours(no, no))
	}
	ok(t, p.Write(20, []byte("new")), f.Write("a.db", 512, make([]byte, 39*512)))
	for no := 1; no < 17; no++ {
		reads(t, p, no, fours(no, no))
	}
	reads(t, p, 20, []byte("new"))
	for no := 17; no < 40; no++ {
		if b, e := p.Read(no); no != 20 && (e != api.ErrSum || len(b) != 0) {
			t.Errorf("page %d: %x, %v", no, b, e)
		}
	}
}

// P17.2: free pages that are gone through, or given, are read, if they aren't held.
func TestReadsOfFree(t *testing.T) {
	f, p := with(t, 2000, 40)
	counts(t, p, 0, func() {
		for no := 1; no < 30; no++ {
			ok(t, p.Free(no))
		}
		if l, e := p.Frees(); len(l) != 29 || e != api.OK {
			t.Error(l, e)
		}
		allocs(t, p, 29, 28)
	})
	ok(t, p.Commit())
	counts(t, p, 1, func() { allocs(t, p, 27) })
	counts(t, p, 0, func() { reads(t, p, 27, nil) })
	ok(t, p.Abort())
	counts(t, p, 27, func() { p.Frees() })
	q := opened(t, f, "a")
	counts(t, q, 1, func() { reads(t, q, 27, fours(26)) })
	counts(t, q, 0, func() { allocs(t, q, 27) })
	counts(t, q, 1, func() { allocs(t, q, 26) })
	// So many as may be kept are read once.
	g, r := with(t, 2000, 10)
	for no := 1; no < 10; no++ {
		ok(t, r.Free(no))
	}
	ok(t, r.Commit())
	r = opened(t, g, "a")
	counts(t, r, 9, func() { frees(t, r, 9, 8, 7, 6, 5, 4, 3, 2, 1) })
	counts(t, r, 0, func() { frees(t, r, 9, 8, 7, 6, 5, 4, 3, 2, 1) })
}
