package pager

import (
	"fmt"
	"slices"
	"strings"
	"testing"

	"inquest/api"
	"inquest/vfs"
)

// opensNot tells where a pager is opened, or another error is told.
func opensNot(t *testing.T, why string, f *vfs.FS, name string, want api.Errno) {
	t.Helper()
	if p, e := Open(f, name); p != nil || e != want {
		t.Errorf("%s: %v, wanted %v", why, e, want)
	}
}

// picture is all that can be told of a store.
func picture(f *vfs.FS) string {
	s := fmt.Sprint(f.Down(), f.Room(), f.Waits())
	for _, name := range f.Names("") {
		s += fmt.Sprint("; ", name, " ", f.Stamp(name), " ", whole(f, name))
	}
	return s
}

// view is all that can be told of a pager, and of what it keeps; to tell it changes that.
func view(p *Pager) string {
	s := fmt.Sprint(p.Reads(), p.Changed(), p.Many())
	for k := -1; k < 9; k++ {
		s += fmt.Sprint("; ", p.Root(k))
	}
	for no := range p.Many() {
		b, e := p.Read(no)
		s += fmt.Sprint("; ", b, e, p.Reads())
	}
	l, e := p.Frees()
	return s + fmt.Sprint("; ", l, e, p.Reads())
}

var wrongNames = []string{"", strings.Repeat("a", 21), strings.Repeat("a", 24), strings.Repeat("a", 1000), "A", "aB", "a_", "a b", " ", "a\x00", "a,b", "a:", "`", "{", "é", "a\xff", "ж", "Z.db", "a\n", "a/B", "@", "["}

// P17.1: Open tells ErrNil without a store, whatever the name.
func TestOpenErrNil(t *testing.T) {
	for _, name := range append(wrongNames, "a", "cat") {
		opensNot(t, name, nil, name, api.ErrNil)
	}
}

// P17.1: Open tells ErrArg of a name that isn't right, also where the store is down; and makes no file.
func TestOpenErrArg(t *testing.T) {
	for _, name := range wrongNames {
		f := vfs.New(100)
		opensNot(t, name, f, name, api.ErrArg)
		if l := f.Names(""); len(l) != 0 {
			t.Errorf("%q: %v", name, l)
		}
		f.Fuse(0)
		opensNot(t, name, f, name, api.ErrArg)
		f.Create("x")
		opensNot(t, name+" of a store that is down", f, name, api.ErrArg)
		full := vfs.New(1)
		opensNot(t, name+" without room", full, name, api.ErrArg)
	}
}

// P17.1: Open tells that the store is down, or goes down in any step.
func TestOpenErrDown(t *testing.T) {
	f := vfs.New(100)
	f.Fuse(0)
	f.Create("x")
	opensNot(t, "down", f, "a", api.ErrDown)
	// Two files, and seven steps of a commit of page 0.
	for n := range 9 {
		f := vfs.New(100)
		f.Fuse(n)
		opensNot(t, fmt.Sprint("fuse ", n), f, "a", api.ErrDown)
		opensNot(t, fmt.Sprint("down behind ", n), f, "a", api.ErrDown)
	}
	f = vfs.New(100)
	f.Fuse(9)
	has(t, opened(t, f, "a"), state{})
	// To open what is there already takes no step; of what is down it is told.
	has(t, opened(t, f, "a"), state{})
	f.Sync("a.db")
	opensNot(t, "down", f, "a", api.ErrDown)
}

// P17.1: Open tells that there is no room for page 0, and works when there is.
func TestOpenErrFull(t *testing.T) {
	for n := 1; n < 17; n++ {
		opensNot(t, fmt.Sprint(n, " sectors"), vfs.New(n), "a", api.ErrFull)
	}
	has(t, opened(t, vfs.New(17), "a"), state{})
	f := vfs.New(17)
	f.Create("b")
	f.Write("b", 0, []byte("b"))
	opensNot(t, "one fewer", f, "a", api.ErrFull)
	opensNot(t, "one fewer, again", f, "a", api.ErrFull)
	f.Delete("b")
	has(t, opened(t, f, "a"), state{})
	committed(t, f, "a", state{})
}

// file makes a file of these bytes anew, synced.
func file(f *vfs.FS, name string, b []byte) {
	f.Create(name)
	f.Cut(name, 0)
	f.Write(name, 0, b)
	f.Sync(name)
}

// filed is a store that has just these bytes as a.db.
func filed(b []byte) *vfs.FS {
	f := vfs.New(1000)
	file(f, "a.db", b)
	return f
}

// three are the bytes of a pager of three pages, with page 0 as it is given.
func three(page0 []byte) []byte {
	return slices.Concat(page0, stands(1, []byte{1}), stands(2, []byte{2}))
}

// P17.1: Open tells the errors of page 0 as chapter 15 does: its sum.
func TestOpenErrSum(t *testing.T) {
	right := stands(0, headed(3, 0, [8]int{1, 2}))
	has(t, opened(t, filed(three(right)), "a"), state{[][]byte{full([]byte{1}), full([]byte{2})}, nil, [8]int{1, 2}})
	for bit := range 8 * 512 {
		wrong := slices.Clone(right)
		wrong[bit/8] ^= 1 << (bit % 8)
		opensNot(t, fmt.Sprint("bit ", bit), filed(three(wrong)), "a", api.ErrSum)
	}
	opensNot(t, "sealed as page 1", filed(three(stands(1, headed(3, 0, [8]int{})))), "a", api.ErrSum)
	opensNot(t, "zeros", filed(make([]byte, 1536)), "a", api.ErrSum)
	opensNot(t, "more, that is no page", filed(make([]byte, 513)), "a", api.ErrSum)
}

// P17.1: Open tells the errors of page 0 as chapter 15 does: its size, where the file has fewer bytes.
func TestOpenErrSize(t *testing.T) {
	right := stands(0, headed(1, 0, [8]int{}))
	for n := 1; n < 512; n++ {
		opensNot(t, fmt.Sprint(n, " bytes"), filed(right[:n]), "a", api.ErrSize)
	}
	has(t, opened(t, filed(right), "a"), state{})
	has(t, opened(t, filed(nil), "a"), state{})
}

// P17.1: Open tells ErrForm, if page 0 isn't as told.
func TestOpenErrForm(t *testing.T) {
	far := []int{3, 4, 255, 256, 65535, 65536, 1 << 24, 1<<31 - 1, 1 << 31, 1<<32 - 1}
	for _, n := range append(far[1:], 0, 1, 2, 65537) {
		opensNot(t, fmt.Sprint(n, " pages"), filed(three(stands(0, headed(n, 0, [8]int{})))), "a", api.ErrForm)
	}
	for _, no := range far {
		opensNot(t, fmt.Sprint("first free one ", no), filed(three(stands(0, headed(3, no, [8]int{})))), "a", api.ErrForm)
		for k := range 8 {
			roots := [8]int{1, 2, 0, 1, 2, 0, 1, 2}
			opened(t, filed(three(stands(0, headed(3, 0, roots)))), "a")
			roots[k] = no
			opensNot(t, fmt.Sprint("root ", k, ": ", no), filed(three(stands(0, headed(3, 0, roots)))), "a", api.ErrForm)
		}
	}
	for i := range 508 {
		b := headed(3, 0, [8]int{})
		if i < 4 || i >= 44 {
			b[i] ^= 1
			opensNot(t, fmt.Sprint("byte ", i), filed(three(stands(0, b))), "a", api.ErrForm)
		}
	}
	// Pages that are missing, and bytes that are no page.
	whole := three(stands(0, headed(3, 0, [8]int{})))
	opened(t, filed(whole), "a")
	for _, n := range []int{512, 513, 1023, 1024, 1025, 1535} {
		opensNot(t, fmt.Sprint(n, " bytes"), filed(whole[:n]), "a", api.ErrForm)
	}
	for _, n := range []int{1, 511, 512, 513} {
		opensNot(t, fmt.Sprint(n, " bytes more"), filed(append(slices.Clone(whole), make([]byte, n)...)), "a", api.ErrForm)
	}
	// 65537 pages are too many, though the file were as long: in no store there is room for them.
	if (head{many: 65537}).right() || !(head{many: 65536}).right() {
		t.Error("most pages")
	}
}

// P17.1: of several errors Open tells the one that comes first.
func TestOpenOrder(t *testing.T) {
	wrong := stands(0, headed(9, 9, [8]int{}))
	wrong[0]++
	opensNot(t, "sum and form", filed(wrong), "a", api.ErrSum)
	f := filed(wrong)
	f.Fuse(0)
	opensNot(t, "store and sum", f, "a", api.ErrDown)
	f = filed([]byte("short"))
	f.Fuse(0)
	opensNot(t, "store and size", f, "a", api.ErrDown)
	f = filed(stands(0, headed(9, 9, [8]int{})))
	f.Fuse(0)
	opensNot(t, "store and form", f, "a", api.ErrDown)
	opensNot(t, "name and all of them", f, "A", api.ErrArg)
	opensNot(t, "nil and name", nil, "A", api.ErrNil)
}

// twins are two pagers that went through the same, in a store each: of thirty pages, two free, some changed, and as many kept as may be.
func twins(t *testing.T) (fs [2]*vfs.FS, ps [2]*Pager) {
	t.Helper()
	for i := range 2 {
		f, p := with(t, 3000, 30)
		ok(t, p.Free(4), p.Free(2), p.SetRoot(1, 3), p.Commit())
		for no := 25; no > 5; no-- {
			p.Read(no)
		}
		p.Read(20)
		ok(t, p.Write(3, []byte("changed")), p.Write(9, []byte("changed")), p.Free(8))
		allocs(t, p, 8)
		p.Read(26)
		p.Read(27)
		fs[i], ps[i] = f, p
	}
	return fs, ps
}

// changesNothing tells where those calls, which tell errors, change what can be told, now or behind a commit.
func changesNothing(t *testing.T, why string, calls func(f *vfs.FS, p *Pager)) {
	t.Helper()
	fs, ps := twins(t)
	calls(fs[0], ps[0])
	if a, b := view(ps[0]), view(ps[1]); a != b {
		t.Errorf("%s:\n%s, and without it\n%s", why, a, b)
	}
	fs, ps = twins(t)
	calls(fs[0], ps[0])
	for _, p := range ps {
		allocs(t, p, 2, 4, 30)
		ok(t, p.Commit())
	}
	if a, b := picture(fs[0]), picture(fs[1]); a != b {
		t.Errorf("%s: the files are others", why)
	}
	if a, b := view(ps[0]), view(ps[1]); a != b {
		t.Errorf("%s: behind a commit\n%s, and without it\n%s", why, a, b)
	}
}

// P17.1, R2: Free, Read and Write tell ErrArg where there is no such page, and change nothing.
func TestNoSuchPage(t *testing.T) {
	changesNothing(t, "no such page", func(_ *vfs.FS, p *Pager) {
		for _, no := range append(far, 30, 31, 60, 65535) {
			check(t, step{p.Free(no), api.ErrArg}, step{p.Write(no, []byte("x")), api.ErrArg}, step{p.Write(no, nil), api.ErrArg})
			for k := range 8 {
				check(t, step{p.SetRoot(k, no), api.ErrArg})
			}
			if b, e := p.Read(no); len(b) != 0 || e != api.ErrArg {
				t.Errorf("Read(%d): %x, %v", no, b, e)
			}
		}
		check(t, step{p.Free(0), api.ErrArg}, step{p.Write(0, []byte("x")), api.ErrArg}, step{p.Write(0, nil), api.ErrArg})
		for _, k := range append(far, 8, 9) {
			check(t, step{p.SetRoot(k, 0), api.ErrArg}, step{p.SetRoot(k, 1), api.ErrArg}, step{p.SetRoot(k, 30), api.ErrArg})
		}
	})
	// The last one, and the one behind it.
	_, p := with(t, 100, 1)
	check(t, step{p.Free(1), api.ErrArg}, step{p.Write(1, nil), api.ErrArg}, step{p.SetRoot(0, 1), api.ErrArg}, step{p.SetRoot(0, 0), api.OK})
	allocs(t, p, 1)
	check(t, step{p.Write(1, nil), api.OK}, step{p.SetRoot(0, 1), api.OK}, step{p.Write(2, nil), api.ErrArg}, step{p.SetRoot(0, 2), api.ErrArg}, step{p.Free(2), api.ErrArg}, step{p.Free(1), api.OK})
	ok(t, p.Abort())
	check(t, step{p.Free(1), api.ErrArg}, step{p.Write(1, nil), api.ErrArg}, step{p.SetRoot(0, 1), api.ErrArg})
}

// P17.1, R2: Write tells ErrLong of more than 508 bytes, but ErrArg ahead of it, and changes nothing.
func TestWriteErrLong(t *testing.T) {
	changesNothing(t, "too long", func(_ *vfs.FS, p *Pager) {
		for _, n := range []int{509, 510, 512, 513, 70000} {
			for _, no := range []int{1, 2, 3, 20, 29} {
				check(t, step{p.Write(no, make([]byte, n)), api.ErrLong})
			}
			for _, no := range append(far, 0, 30) {
				check(t, step{p.Write(no, make([]byte, n)), api.ErrArg})
			}
		}
	})
}

// allocsNot and freesNot and readsNot tell where another error is told.
func allocsNot(t *testing.T, p *Pager, want api.Errno) {
	t.Helper()
	if no, e := p.Alloc(); no != 0 || e != want {
		t.Errorf("Alloc: %d, %v, wanted %v", no, e, want)
	}
}

func freesNot(t *testing.T, p *Pager, want api.Errno) {
	t.Helper()
	if l, e := p.Frees(); len(l) != 0 || e != want {
		t.Errorf("Frees: %v, %v, wanted %v", l, e, want)
	}
}

func readsNot(t *testing.T, p *Pager, no int, want api.Errno) {
	t.Helper()
	if b, e := p.Read(no); len(b) != 0 || e != want {
		t.Errorf("Read(%d): %x, %v, wanted %v", no, b, e, want)
	}
}

// spell is what is done to a store ahead of calls, and behind them.
type spell struct{ ahead, behind func(f *vfs.FS) }

// spellOf lets a page of a.db be another one.
func spellOf(no int, b []byte) spell {
	var was []byte
	return spell{
		func(f *vfs.FS) {
			was, _ = f.Read("a.db", 512*no, 512)
			f.Write("a.db", 512*no, b)
		},
		func(f *vfs.FS) { f.Write("a.db", 512*no, was) },
	}
}

// spelled tells where those calls, done under a spell, change what can be told, now or behind a commit.
func spelled(t *testing.T, why string, s spell, calls func(p *Pager)) {
	t.Helper()
	under := func() ([2]*vfs.FS, [2]*Pager) {
		fs, ps := twins(t)
		for i := range 2 {
			s.ahead(fs[i])
			if i == 0 {
				calls(ps[i])
			}
			s.behind(fs[i])
		}
		return fs, ps
	}
	_, ps := under()
	if a, b := view(ps[0]), view(ps[1]); a != b {
		t.Errorf("%s:\n%s, and without it\n%s", why, a, b)
	}
	fs, ps := under()
	for _, p := range ps {
		allocs(t, p, 2, 4, 30)
		ok(t, p.Commit())
	}
	if picture(fs[0]) != picture(fs[1]) || view(ps[0]) != view(ps[1]) {
		t.Errorf("%s: another one behind a commit", why)
	}
}

// P17.1, P17.2, R2: the errors of pages that are read: their sums, and free ones that lead to no page; nothing changes with them.
func TestErrorsOfPages(t *testing.T) {
	bad := stands(2, fours(4))
	bad[77] ^= 4
	for _, b := range [][]byte{bad, make([]byte, 512), stands(3, fours(4)), stands(4, fours(4))} {
		spelled(t, "sum of the first free one", spellOf(2, b), func(p *Pager) {
			readsNot(t, p, 2, api.ErrSum)
			allocsNot(t, p, api.ErrSum)
			freesNot(t, p, api.ErrSum)
		})
	}
	spelled(t, "sum of the second free one", spellOf(4, make([]byte, 512)), func(p *Pager) {
		readsNot(t, p, 4, api.ErrSum)
		freesNot(t, p, api.ErrSum)
	})
	spelled(t, "sum of another page", spellOf(1, make([]byte, 512)), func(p *Pager) { readsNot(t, p, 1, api.ErrSum) })
	for _, next := range []int{30, 31, 255, 65536, 1 << 24, 1 << 31, 1<<32 - 1} {
		spelled(t, "the first free one leads nowhere", spellOf(2, stands(2, fours(next))), func(p *Pager) {
			allocsNot(t, p, api.ErrForm)
			freesNot(t, p, api.ErrForm)
		})
		spelled(t, "the second free one leads nowhere", spellOf(4, stands(4, fours(next))), func(p *Pager) { freesNot(t, p, api.ErrForm) })
	}
	for _, no := range []int{2, 4} {
		spelled(t, "round", spellOf(4, stands(4, fours(no))), func(p *Pager) { freesNot(t, p, api.ErrForm) })
	}
	spelled(t, "round", spellOf(2, stands(2, fours(2))), func(p *Pager) { freesNot(t, p, api.ErrForm) })
}

// P17.1, R2: the errors of the store, of what must be read; nothing changes with them, and what is held is told all the same.
func TestErrorsOfStore(t *testing.T) {
	for _, c := range []struct {
		why  string
		want api.Errno
		spell
	}{
		{"down", api.ErrDown, spell{
			func(f *vfs.FS) {
				f.Fuse(0)
				f.Sync("a.db")
			},
			func(f *vfs.FS) { f.Crash(0) },
		}},
		{"no file", api.ErrNone, spell{
			func(f *vfs.FS) { f.Rename("a.db", "b") },
			func(f *vfs.FS) { f.Rename("b", "a.db") },
		}},
		{"a file that is cut", api.ErrEnd, spell{
			func(f *vfs.FS) {
				file(f, "b", whole(f, "a.db"))
				f.Cut("a.db", 0)
			},
			func(f *vfs.FS) { f.Write("a.db", 0, whole(f, "b")) },
		}},
	} {
		spelled(t, c.why, c.spell, func(p *Pager) {
			readsNot(t, p, 1, c.want)
			readsNot(t, p, 29, c.want)
			allocsNot(t, p, c.want)
			freesNot(t, p, c.want)
			if p.Many() != 30 || p.Root(1) != 3 || !p.Changed() {
				t.Error(c.why, p.Many(), p.Root(1), p.Changed())
			}
			// The last one that was kept, and what was changed.
			reads(t, p, 27, fours(27, 27))
			reads(t, p, 3, []byte("changed"))
			reads(t, p, 8, nil)
			reads(t, p, 0, headed(30, 2, [8]int{1: 3}))
		})
	}
}

// P17.1, R1: a page that is free, and is written, may lead anywhere: all calls end.
func TestFreeOnesThatAreWritten(t *testing.T) {
	_, p := with(t, 1000, 5)
	ok(t, p.Free(1), p.Free(2), p.Free(3))
	ok(t, p.Write(3, []byte{2, 0, 0, 1}))
	allocsNot(t, p, api.ErrForm)
	freesNot(t, p, api.ErrForm)
	ok(t, p.Write(1, []byte{3}), p.Write(3, []byte{2, 0, 0, 0, 1}))
	freesNot(t, p, api.ErrForm)
	allocs(t, p, 3, 2, 1, 3)
	frees(t, p)
	ok(t, p.Commit())
	// Where one is freed that is free already, all ends, whatever it is.
	for _, no := range []int{2, 2, 1, 2, 4, 4} {
		p.Free(no)
		p.Frees()
		p.Read(no)
	}
	for range 10 {
		p.Alloc()
		p.Frees()
	}
	p.Commit()
}

// P17.1, P17.2: a nil Pager tells ErrNil, 0 and false, whatever is asked.
func TestNilPager(t *testing.T) { answersNothing(t, nil, api.ErrNil) }

// answersNothing tells where a pager tells something else than that error, 0 and false.
func answersNothing(t *testing.T, p *Pager, want api.Errno) {
	t.Helper()
	allocsNot(t, p, want)
	freesNot(t, p, want)
	for _, no := range append(far, 0, 1, 2, 3, 8) {
		readsNot(t, p, no, want)
		check(t, step{p.Free(no), want}, step{p.Write(no, nil), want}, step{p.Write(no, []byte{1}), want}, step{p.Write(no, make([]byte, 509)), want},
			step{p.SetRoot(0, no), want}, step{p.SetRoot(no, 0), want}, step{p.SetRoot(no, no), want})
		if p.Root(no) != 0 {
			t.Errorf("Root(%d): %d", no, p.Root(no))
		}
	}
	check(t, step{p.Commit(), want}, step{p.Abort(), want}, step{p.Commit(), want})
	if p.Many() != 0 || p.Reads() != 0 || p.Changed() {
		t.Error(p.Many(), p.Reads(), p.Changed())
	}
}
