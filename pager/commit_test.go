package pager

import (
	"bytes"
	"fmt"
	"slices"
	"testing"

	"inquest/api"
	"inquest/vfs"
)

// P17.2: without changes nothing is done: no file is touched, no step of a fuse is taken, no room is needed, and a store that is down isn't asked.
func TestCommitOfNothing(t *testing.T) {
	f, p := with(t, 1000, 4)
	fills(f, 0)
	reads(t, p, 1, fours(1, 1))
	before := picture(f)
	f.Fuse(0)
	for range 3 {
		ok(t, p.Commit())
		p.Frees()
		check(t, step{p.Write(0, nil), api.ErrArg})
		ok(t, p.Commit(), p.Abort())
	}
	if after := picture(f); after != before {
		t.Errorf("%s, it was %s", after, before)
	}
	f.Sync("a.db")
	ok(t, p.Commit(), p.Abort(), p.Commit())
	f.Crash(0)
	fills(f, 17)
	ok(t, p.Write(1, []byte("x")), p.Commit())
	before = picture(f)
	ok(t, p.Write(1, []byte("y")), p.Abort(), p.Commit())
	if after := picture(f); after != before {
		t.Errorf("%s, it was %s", after, before)
	}
}

// changed is a pager of four pages, with changes that aren't committed: of page 1, a new page 4, and a root; and its batch, and what name.db has ahead of a commit and behind it.
func changed(t *testing.T) (f *vfs.FS, p *Pager, batch, old, now []byte) {
	t.Helper()
	f, p = with(t, 1000, 4)
	ok(t, p.Write(1, []byte("one")))
	allocs(t, p, 4)
	ok(t, p.Write(4, []byte("four")), p.SetRoot(5, 4))
	pages := []api.Write{{No: 0, B: stands(0, headed(5, 0, [8]int{5: 4}))}, {No: 1, B: stands(1, []byte("one"))}, {No: 4, B: stands(4, []byte("four"))}}
	two, three := stands(2, fours(2, 2)), stands(3, fours(3, 3))
	old = slices.Concat(stands(0, headed(4, 0, [8]int{})), stands(1, fours(1, 1)), two, three)
	now = slices.Concat(pages[0].B, pages[1].B, two, three, pages[2].B)
	return f, p, batchOf(pages...), old, now
}

// laid is b, with the bytes laid over it from at on.
func laid(b []byte, at int, over []byte) []byte {
	out := make([]byte, max(len(b), at+len(over)))
	copy(out, b)
	copy(out[at:], over)
	return out
}

// files is what stands in both files when a store went down behind some steps, if all lasts that waits, or nothing of it.
type standing struct{ log, db, noLog, noDb []byte }

// stages are what stands behind each step of writing the batch to the pages, which are at 0, 1 and 4.
func stages(log, old, now []byte) []standing {
	one := laid(old, 0, now[:512])
	two := laid(one, 512, now[512:1024])
	return []standing{
		{log, old, log, old},
		{log, one, log, old},
		{log, two, log, old},
		{log, now, log, laid(old, 2048, make([]byte, 512))},
		{log, now, log, now},
		{nil, now, nil, now},
	}
}

// isStanding tells where the files aren't as told.
func isStanding(t *testing.T, f *vfs.FS, why string, log, db []byte) {
	t.Helper()
	if got := whole(f, "a.log"); !bytes.Equal(got, log) {
		t.Errorf("%s: name.log has %x, wanted %x", why, got, log)
	}
	if got := whole(f, "a.db"); !bytes.Equal(got, db) {
		t.Errorf("%s: name.db has %x, wanted %x", why, got, db)
	}
}

// P17.2: what stands in both files behind each step of a commit, byte by byte; what is synced is told by a crash that keeps nothing.
func TestStepsOfCommit(t *testing.T) {
	_, _, batch, old, now := changed(t)
	end := append(slices.Clone(batch), 0x64, 0x6f, 0x6e, 0x65)
	list := append([]standing{
		{nil, old, nil, old},
		{batch, old, make([]byte, len(batch)), old},
		{batch, old, batch, old},
		{end, old, append(slices.Clone(batch), 0, 0, 0, 0), old},
	}, stages(end, old, now)...)
	for n, want := range list {
		for _, keep := range []uint64{0, 1<<64 - 1} {
			f, p, _, _, _ := changed(t)
			f.Fuse(n)
			e := p.Commit()
			if last := n == len(list)-1; last && e != api.OK || !last && e != api.ErrDown || f.Down() == last {
				t.Errorf("fuse %d: %v, down %v", n, e, f.Down())
			}
			f.Crash(keep)
			if keep == 0 {
				isStanding(t, f, fmt.Sprint("nothing lasts behind ", n), want.noLog, want.noDb)
			} else {
				isStanding(t, f, fmt.Sprint("all lasts behind ", n), want.log, want.db)
			}
		}
	}
}

// P17.2: what stands in both files behind each step of an opening that finds a journal, byte by byte.
func TestStepsOfOpening(t *testing.T) {
	_, _, batch, old, now := changed(t)
	end := append(slices.Clone(batch), "done"...)
	list := stages(end, old, now)
	for n, want := range list {
		for _, keep := range []uint64{0, 1<<64 - 1} {
			f := vfs.New(1000)
			file(f, "a.db", old)
			file(f, "a.log", end)
			f.Fuse(n)
			if n == len(list)-1 {
				opened(t, f, "a")
			} else {
				opensNot(t, fmt.Sprint("fuse ", n), f, "a", api.ErrDown)
			}
			f.Crash(keep)
			if keep == 0 {
				isStanding(t, f, fmt.Sprint("nothing lasts behind ", n), want.noLog, want.noDb)
			} else {
				isStanding(t, f, fmt.Sprint("all lasts behind ", n), want.log, want.db)
			}
		}
	}
}

// P17.2: a new pager: the files that there aren't are created, then page 0 is committed.
func TestStepsOfNew(t *testing.T) {
	now := state{}.file()
	batch := batchOf(api.Write{No: 0, B: now})
	end := append(slices.Clone(batch), "done"...)
	for n, want := range []standing{
		{},
		{batch, nil, make([]byte, len(batch)), nil},
		{batch, nil, batch, nil},
		{end, nil, append(slices.Clone(batch), 0, 0, 0, 0), nil},
		{end, nil, end, nil},
		{end, now, end, make([]byte, 512)},
		{end, now, end, now},
	} {
		for _, keep := range []uint64{0, 1<<64 - 1} {
			f := vfs.New(1000)
			f.Fuse(n + 2)
			opensNot(t, fmt.Sprint("fuse ", n+2), f, "a", api.ErrDown)
			f.Crash(keep)
			if keep == 0 {
				isStanding(t, f, fmt.Sprint("nothing lasts behind ", n), want.noLog, want.noDb)
			} else {
				isStanding(t, f, fmt.Sprint("all lasts behind ", n), want.log, want.db)
			}
			has(t, opened(t, f, "a"), state{})
			committed(t, f, "a", state{})
		}
	}
	// One of the files alone, and others beside.
	for _, name := range []string{"a.db", "a.log"} {
		f := vfs.New(1000)
		f.Create(name)
		f.Create("a")
		stamp := f.Stamp("a")
		f.Fuse(8)
		has(t, opened(t, f, "a"), state{})
		committed(t, f, "a", state{})
		if f.Stamp("a") != stamp || len(f.Names("")) != 3 {
			t.Error(f.Stamp("a"), f.Names(""))
		}
	}
	f := vfs.New(1000)
	f.Fuse(0)
	opensNot(t, "no step", f, "a", api.ErrDown)
	f.Crash(0)
	if l := f.Names(""); len(l) != 0 {
		t.Error(l)
	}
}

// P17.2: a batch has page 0, and the pages that were changed alone, in the order of their numbers.
func TestBatch(t *testing.T) {
	for _, change := range []func(p *Pager, m *told){
		func(p *Pager, m *told) { ok(t, p.Write(7, []byte("7")), m.write(7, []byte("7"))) },
		func(p *Pager, m *told) { ok(t, p.SetRoot(1, 3), m.setRoot(1, 3)) },
		func(p *Pager, m *told) { ok(t, p.Free(5), m.freed(5), p.Free(2), m.freed(2)) },
		func(p *Pager, m *told) {
			ok(t, p.Free(5), m.freed(5), p.Free(2), m.freed(2))
			allocs(t, p, m.alloc())
		},
		func(p *Pager, m *told) { allocs(t, p, m.alloc(), m.alloc(), m.alloc()) },
		func(p *Pager, m *told) {
			for no := 39; no > 0; no -= 2 {
				b := []byte{byte(no), 1}
				ok(t, p.Write(no, b), m.write(no, b))
			}
			allocs(t, p, m.alloc())
		},
	} {
		f, p := with(t, 5000, 40)
		m := newTold()
		for no := 1; no < 40; no++ {
			m.alloc()
			m.write(no, fours(no, no))
		}
		m.commit()
		for no := range 10 {
			p.Read(no)
		}
		change(p, m)
		f.Fuse(4)
		check(t, step{p.Commit(), api.ErrDown})
		f.Crash(0)
		isStanding(t, f, "batch", append(batchOf(m.batch()...), "done"...), m.last.file())
		has(t, opened(t, f, "a"), m.now)
	}
}

// fills leaves so many sectors free, by a file of its own.
func fills(f *vfs.FS, room int) {
	f.Create("fill")
	f.Cut("fill", 0)
	f.Write("fill", 0, make([]byte, 64*(f.Room()-room)))
	f.Sync("fill")
}

// P17.2, R2: ErrFull, if there are fewer sectors than a commit needs; the changes are given up, and nothing that lasts has changed. So many, and no more, are enough.
func TestErrFull(t *testing.T) {
	// How many pages are written that were there, how many are new, and how many sectors that needs, worked out by hand: 528 bytes of a batch of page 0, 516 for each more, and 4; and 8 sectors for each new one.
	for _, c := range [][3]int{{0, 0, 9}, {1, 0, 17}, {0, 1, 25}, {2, 0, 25}, {1, 1, 33}, {0, 2, 41}, {3, 0, 33}, {0, 3, 57}, {11, 0, 97}, {12, 0, 106}, {0, 12, 202}, {13, 0, 114}, {23, 5, 275}} {
		f, p := with(t, 3000, 40)
		ok(t, p.Free(39), p.Commit())
		m := newTold()
		for no := 1; no < 40; no++ {
			m.alloc()
			m.write(no, fours(no, no))
		}
		m.freed(39)
		m.commit()
		if c[1] > 0 {
			// Else the first new one would be this one, that grows by nothing.
			allocs(t, p, m.alloc())
			ok(t, p.Commit())
			m.commit()
		}
		change := func() {
			ok(t, p.SetRoot(3, 1), m.setRoot(3, 1))
			for i := range c[0] {
				ok(t, p.Write(30-i, []byte("x")), m.write(30-i, []byte("x")))
			}
			for range c[1] {
				allocs(t, p, m.alloc())
			}
		}
		for _, room := range []int{c[2] - 1, 0, 8} {
			fills(f, room)
			before := picture(f)
			change()
			check(t, step{p.Commit(), api.ErrFull})
			m.abort()
			if after := picture(f); after != before {
				t.Errorf("%v, %d free: %s, it was %s", c, room, after, before)
			}
			if p.Changed() {
				t.Error("changed")
			}
			has(t, p, m.last)
			committed(t, f, "a", m.last)
		}
		fills(f, c[2])
		change()
		ok(t, p.Commit())
		m.commit()
		has(t, p, m.last)
		committed(t, f, "a", m.last)
		has(t, opened(t, f, "a"), m.last)
	}
}

// P17.2: a page that was free, and is given, doesn't let name.db grow.
func TestRoomOfFree(t *testing.T) {
	f, p := with(t, 3000, 4)
	ok(t, p.Free(3), p.Free(2), p.Commit())
	fills(f, 25)
	allocs(t, p, 2, 3)
	ok(t, p.Commit())
	fills(f, 24)
	ok(t, p.Free(3), p.Free(2))
	check(t, step{p.Commit(), api.ErrFull})
	frees(t, p)
}

// P17.2: the greatest store has room for a commit of 4080 new pages, page 0 among them, and just that.
func TestGreatestCommit(t *testing.T) {
	f := vfs.New(65536)
	f.Create("b")
	p := opened(t, f, "a")
	m := newTold()
	for range 4079 {
		allocs(t, p, m.alloc())
	}
	f.Write("b", 0, []byte{1})
	check(t, step{p.Commit(), api.ErrFull})
	if p.Many() != 1 {
		t.Error(p.Many())
	}
	f.Cut("b", 0)
	m.abort()
	for no := 1; no < 4080; no++ {
		allocs(t, p, m.alloc())
		ok(t, p.Write(no, fours(no)), m.write(no, fours(no)))
	}
	ok(t, p.Commit())
	m.commit()
	committed(t, f, "a", m.last)
	has(t, opened(t, f, "a"), m.last)
}

// P17.2: ErrMany, if more than 4096 pages are written together, page 0 among them, wherever the store is; the changes are given up. There is no store that has room for 4096.
func TestErrMany(t *testing.T) {
	for _, c := range []struct {
		many int
		want api.Errno
	}{{4094, api.ErrFull}, {4095, api.ErrFull}, {4096, api.ErrMany}, {4097, api.ErrMany}, {6000, api.ErrMany}} {
		for _, sectors := range []int{17, 65536} {
			f := vfs.New(sectors)
			p := opened(t, f, "a")
			before := picture(f)
			for no := 1; no <= c.many; no++ {
				allocs(t, p, no)
			}
			ok(t, p.SetRoot(1, 9))
			check(t, step{p.Commit(), c.want}, step{p.Commit(), api.OK})
			has(t, p, state{})
			if after := picture(f); after != before || p.Changed() {
				t.Errorf("%d pages: changed", c.many)
			}
			committed(t, f, "a", state{})
		}
	}
	// Where page 0 wasn't changed itself, it is one more all the same.
	f := vfs.New(65536)
	p := opened(t, f, "a")
	m := newTold()
	for no := 1; no < 5001; no++ {
		allocs(t, p, m.alloc())
		if no%2500 == 0 {
			ok(t, p.Commit())
		}
	}
	m.commit()
	for _, c := range []struct {
		many int
		want api.Errno
	}{{4097, api.ErrMany}, {4096, api.ErrMany}, {4095, api.ErrFull}} {
		for no := 1; no <= c.many; no++ {
			ok(t, p.Write(no, []byte{1}))
		}
		check(t, step{p.Commit(), c.want})
		if p.Changed() {
			t.Error("changed")
		}
	}
	has(t, p, m.last)
	committed(t, f, "a", m.last)
	// A store that is down tells that only of what could be written.
	for no := 1; no <= 4096; no++ {
		ok(t, p.Write(no, []byte{1}))
	}
	f.Fuse(0)
	f.Sync("a.db")
	check(t, step{p.Commit(), api.ErrMany})
	f.Crash(0)
	has(t, p, m.last)
}

// P17.2: behind an error of the store in a commit a pager is dead: ErrState, 0 and false, whatever is asked, whatever becomes of the store.
func TestDead(t *testing.T) {
	for n := range 9 {
		f, p, _, _, _ := changed(t)
		f.Fuse(n)
		check(t, step{p.Commit(), api.ErrDown})
		answersNothing(t, p, api.ErrState)
		f.Crash(0)
		answersNothing(t, p, api.ErrState)
		q := opened(t, f, "a")
		before := picture(f)
		answersNothing(t, p, api.ErrState)
		if picture(f) != before {
			t.Error("a dead pager did something")
		}
		ok(t, q.Write(1, []byte("x")), q.Commit())
	}
	// The store was down already, or was full ahead of that.
	for _, room := range []int{0, 100} {
		f, p, _, old, _ := changed(t)
		fills(f, room)
		f.Fuse(0)
		f.Sync("a.db")
		check(t, step{p.Commit(), api.ErrDown})
		answersNothing(t, p, api.ErrState)
		f.Crash(0)
		isStanding(t, f, "down", nil, old)
	}
	// Another error of the store.
	for _, name := range []string{"a.log", "a.db"} {
		f, p, _, _, _ := changed(t)
		f.Delete(name)
		check(t, step{p.Commit(), api.ErrNone})
		answersNothing(t, p, api.ErrState)
	}
}

// P17.2: what only asks doesn't let a pager be dead, though the store is down; nor does Abort.
func TestNotDead(t *testing.T) {
	f, p, _, _, now := changed(t)
	f.Fuse(0)
	f.Sync("a.db")
	readsNot(t, p, 3, api.ErrDown)
	f.Crash(0)
	reads(t, p, 3, fours(3, 3))
	ok(t, p.Commit())
	isStanding(t, f, "behind it", nil, now)
	ok(t, p.Write(2, []byte("x")))
	f.Fuse(0)
	f.Sync("a.db")
	ok(t, p.Abort())
	f.Crash(0)
	reads(t, p, 2, fours(2, 2))
}
