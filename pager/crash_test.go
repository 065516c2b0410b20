package pager

import (
	"bytes"
	"math/rand"
	"slices"
	"testing"

	"inquest/api"
	"inquest/vfs"
)

// keeps are which of the sectors that wait last.
func keeps(x *rand.Rand) []uint64 {
	return []uint64{0, 1<<64 - 1, 1, 1<<64 - 2, 0x5555555555555555, 0xaaaaaaaaaaaaaaaa, x.Uint64(), x.Uint64(), x.Uint64() & x.Uint64(), x.Uint64() | x.Uint64()}
}

// lived is a pager with a life behind it, that is drawn, and with changes that aren't committed; the same for the same number.
func lived(t *testing.T, seed int64, most int) (*vfs.FS, *Pager, *told) {
	t.Helper()
	x := rand.New(rand.NewSource(seed))
	f := vfs.New(9000)
	p, m := opened(t, f, "a"), newTold()
	for range x.Intn(4) {
		for range x.Intn(most) {
			one(t, x, p, m)
		}
		ok(t, p.Commit())
		m.commit()
	}
	for range 1 + x.Intn(most) {
		one(t, x, p, m)
	}
	ok(t, p.SetRoot(1, 0), m.setRoot(1, 0))
	return f, p, m
}

// again opens the pager with fuses of 0, 1, 2 and so on, with a crash behind each, till it is open.
func again(t *testing.T, f *vfs.FS, x *rand.Rand) *Pager {
	t.Helper()
	for n := range 200 {
		f.Fuse(n)
		p, e := Open(f, "a")
		if e == api.OK {
			f.Fuse(-1)
			return p
		}
		if e != api.ErrDown || p != nil {
			t.Fatalf("opened anew: %v", e)
		}
		l := keeps(x)
		f.Crash(l[x.Intn(len(l))])
	}
	t.Fatal("never opened")
	return nil
}

// goesOn tells where a pager that was opened anew can't be worked with.
func goesOn(t *testing.T, f *vfs.FS, p *Pager, s state) {
	t.Helper()
	m := newTold()
	m.now = s.copied()
	no := m.alloc()
	allocs(t, p, no, m.alloc())
	ok(t, p.Write(no, []byte("on")), m.write(no, []byte("on")), p.Commit())
	m.commit()
	has(t, opened(t, f, "a"), m.last)
	committed(t, f, "a", m.last)
}

// P17.3: wherever the store goes down in a commit, and whatever a crash keeps, also if it goes down again in the opening: all is as it was at the last commit, or at the one that was ended.
func TestCrash(t *testing.T) {
	x := rand.New(rand.NewSource(173))
	for seed := range int64(16) {
		most := 12
		if seed%8 == 7 {
			most = 120
		}
		done := false
		for n := 0; !done; n++ {
			if most > 12 && n > 8 {
				// Of long ones not each page that is written is looked at.
				n += 6
			}
			for i, keep := range keeps(x) {
				f, p, m := lived(t, seed, most)
				f.Fuse(n)
				e := p.Commit()
				done = e == api.OK
				if !done && e != api.ErrDown {
					t.Fatalf("fuse %d: %v", n, e)
				}
				f.Crash(keep)
				want := m.last
				// Behind three steps the four bytes wait, in one sector; behind four they last.
				if n > 3 || n == 3 && keep&1 == 1 {
					want = m.now
				}
				q := again(t, f, x)
				has(t, q, want)
				committed(t, f, "a", want)
				if i%3 == 0 {
					goesOn(t, f, q, want)
				}
				if t.Failed() {
					t.Fatalf("life %d, fuse %d, keep %x", seed, n, keep)
				}
			}
		}
	}
}

// P17.3: a commit that was told OK stays, whatever a crash keeps, and whatever wasn't committed is lost.
func TestCrashBehindCommit(t *testing.T) {
	x := rand.New(rand.NewSource(174))
	for seed := range int64(40) {
		for _, keep := range keeps(x) {
			f, p, m := lived(t, seed, 30)
			ok(t, p.Commit())
			m.commit()
			for range 10 {
				one(t, x, p, m)
			}
			f.Crash(keep)
			q := again(t, f, x)
			has(t, q, m.last)
			committed(t, f, "a", m.last)
		}
	}
}

// P17.3: wherever the store goes down in a row of commits: all is as it was at the last one that was told OK, or at the one that was ended.
func TestCrashInRow(t *testing.T) {
	x := rand.New(rand.NewSource(175))
	for n := range 150 {
		f := vfs.New(9000)
		f.Fuse(n)
		var m *told
		e := api.OK
		if p, down := Open(f, "a"); down == api.OK {
			m = newTold()
			for range 20 {
				for range 1 + x.Intn(9) {
					calm(t, x, p, m)
				}
				if e = p.Commit(); e != api.OK {
					break
				}
				m.commit()
			}
		}
		f.Crash(x.Uint64())
		q := again(t, f, x)
		if m == nil {
			has(t, q, state{})
			continue
		}
		b := whole(f, "a.db")
		if !bytes.Equal(b, m.last.file()) && (e == api.OK || !bytes.Equal(b, m.now.file())) {
			t.Fatalf("fuse %d, %v: %x", n, e, b)
		}
		if bytes.Equal(b, m.last.file()) {
			has(t, q, m.last)
		} else {
			has(t, q, m.now)
		}
	}
}

// calm does one call of a row that reads nothing: no store that is down bears on it.
func calm(t *testing.T, x *rand.Rand, p *Pager, m *told) {
	t.Helper()
	no := 1 + x.Intn(len(m.now.pages)+1)
	switch x.Intn(3) {
	case 0:
		if no <= len(m.now.pages) && !slices.Contains(m.now.free, no) {
			ok(t, p.Write(no, fours(no)), m.write(no, fours(no)))
		}
	case 1:
		if no <= len(m.now.pages) && !slices.Contains(m.now.free, no) {
			ok(t, p.Free(no), m.freed(no))
		}
	default:
		allocs(t, p, m.alloc())
	}
}

// P17.3: wherever the store goes down in the first opening: there is a pager of page 0 alone behind it.
func TestCrashOfNew(t *testing.T) {
	x := rand.New(rand.NewSource(176))
	for n := range 10 {
		for _, keep := range keeps(x) {
			f := vfs.New(100)
			f.Fuse(n)
			if p, e := Open(f, "a"); n == 9 && e != api.OK || n < 9 && (e != api.ErrDown || p != nil) {
				t.Errorf("fuse %d: %v", n, e)
			}
			f.Crash(keep)
			p := again(t, f, x)
			has(t, p, state{})
			committed(t, f, "a", state{})
			goesOn(t, f, p, state{})
		}
	}
}
