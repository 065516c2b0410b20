package pager

import (
	"bytes"
	"fmt"
	"math/rand"
	"slices"
	"testing"

	"inquest/api"
	"inquest/vfs"
)

// logged is a store that has these bytes as a.db, and as a.log.
func logged(db, log []byte) *vfs.FS {
	f := filed(db)
	file(f, "a.log", log)
	return f
}

// three pages: how they were, how a journal tells them, and that journal without the bytes behind its batch.
func journal() (old, now state, batch []byte) {
	old = state{[][]byte{full([]byte("one")), full([]byte("two"))}, nil, [8]int{1: 2}}
	now = state{[][]byte{full([]byte("uno")), full([]byte("two")), full([]byte("tre"))}, nil, [8]int{1: 3}}
	var l []api.Write
	for _, no := range []int{0, 1, 3} {
		l = append(l, api.Write{No: no, B: stands(no, now.page(no))})
	}
	return old, now, batchOf(l...)
}

// P17.2: a journal that is a batch, and just these four bytes behind it, is written to the pages.
func TestJournal(t *testing.T) {
	old, now, batch := journal()
	log := append(slices.Clone(batch), 0x64, 0x6f, 0x6e, 0x65)
	f := logged(old.file(), log)
	has(t, opened(t, f, "a"), now)
	committed(t, f, "a", now)
	// The same again, on what it made already, or on a part of that.
	for at := 0; at < 2048; at += 512 {
		f = logged(append(slices.Clone(now.file()[:at]), old.file()[min(at, 1536):]...), log)
		has(t, opened(t, f, "a"), now)
		committed(t, f, "a", now)
	}
	// All pages of an empty file, or of none; and such as were damaged.
	var l []api.Write
	for no := range 4 {
		l = append(l, api.Write{No: no, B: stands(no, now.page(no))})
	}
	log = append(batchOf(l...), "done"...)
	for _, db := range [][]byte{nil, {1}, make([]byte, 512), make([]byte, 2048), old.file(), now.file()} {
		f = logged(db, log)
		has(t, opened(t, f, "a"), now)
		committed(t, f, "a", now)
	}
	f = vfs.New(1000)
	file(f, "a.log", log)
	has(t, opened(t, f, "a"), now)
	committed(t, f, "a", now)
}

// stays tells where a journal of these bytes does something, or isn't emptied.
func stays(t *testing.T, why string, log []byte) {
	t.Helper()
	old, _, _ := journal()
	f := logged(old.file(), log)
	stamp := f.Stamp("a.db")
	p, e := Open(f, "a")
	if e != api.OK {
		t.Errorf("%s: %v", why, e)
		return
	}
	if p.Root(1) != 2 || p.Many() != 3 || f.Stamp("a.db") != stamp {
		t.Errorf("%s: root %d of %d pages", why, p.Root(1), p.Many())
	}
	committed(t, f, "a", old)
}

// P17.2: a journal that is a batch with other bytes than these four behind it, with more, or with none, changes nothing.
func TestJournalNotDone(t *testing.T) {
	_, _, batch := journal()
	for _, end := range []string{"", "d", "do", "don", "dond", "done\x00", "done\n", "donedone", "\x00done", "enod", "\x00\x00\x00\x00", "DONE", "done" + string(make([]byte, 508)), string(batch), string(batch) + "done"} {
		stays(t, fmt.Sprintf("%q", end), append(slices.Clone(batch), end...))
	}
	for i := range 4 {
		for bit := range 8 {
			end := []byte("done")
			end[i] ^= 1 << bit
			stays(t, fmt.Sprintf("%q", end), append(slices.Clone(batch), end...))
		}
	}
}

// P17.2: a journal that isn't a batch changes nothing.
func TestJournalNoBatch(t *testing.T) {
	_, _, batch := journal()
	log := append(slices.Clone(batch), "done"...)
	for n := 1; n < len(log); n++ {
		stays(t, fmt.Sprint("the first ", n), log[:n])
		stays(t, fmt.Sprint("the last ", n), log[len(log)-n:])
	}
	for i := range batch {
		wrong := slices.Clone(log)
		wrong[i] ^= 1 << (i % 8)
		stays(t, fmt.Sprint("byte ", i), wrong)
	}
	for _, n := range []int{1, 4, 12, 64, 528, 532, 10000} {
		stays(t, fmt.Sprint(n, " zeros"), make([]byte, n))
	}
	stays(t, "done alone", []byte("done"))
	stays(t, "done twice", []byte("donedone"))
	// Pages that aren't in order, or come twice, with the right sum.
	one := api.Write{No: 1, B: stands(1, []byte("x"))}
	two := api.Write{No: 2, B: stands(2, []byte("y"))}
	for _, l := range [][]api.Write{{two, one}, {one, one}, {one, two, two}, {{No: 1 << 24, B: one.B}}} {
		stays(t, "not in order", append(batchOf(l...), "done"...))
	}
	// A batch of nothing.
	stays(t, "nothing", batchOf())
	stays(t, "nothing, more", append(batchOf(), "done."...))
	x := rand.New(rand.NewSource(3))
	for range 300 {
		stays(t, "drawn", drawn(x, 1+x.Intn(2000)))
	}
	old, _, _ := journal()
	f := logged(old.file(), append(batchOf(), "done"...))
	has(t, opened(t, f, "a"), old)
	committed(t, f, "a", old)
}

// P17.2: where a journal changes nothing, and there are no pages, page 0 is made.
func TestJournalOfNothing(t *testing.T) {
	_, _, batch := journal()
	for _, log := range [][]byte{batch, batch[1:], {0}, append(slices.Clone(batch), "donee"...), append(batchOf(), "done"...), make([]byte, 5000)} {
		f := logged(nil, log)
		has(t, opened(t, f, "a"), state{})
		committed(t, f, "a", state{})
	}
}

// P17.1, P17.2: the journal comes first, then page 0 is looked at, as the journal left it.
func TestJournalAheadOfPages(t *testing.T) {
	old, now, _ := journal()
	zero := append(batchOf(api.Write{No: 0, B: make([]byte, 512)}), "done"...)
	f := logged(old.file(), zero)
	opensNot(t, "zeros as page 0", f, "a", api.ErrSum)
	if b := whole(f, "a.db"); !bytes.Equal(b, laid(old.file(), 0, make([]byte, 512))) {
		t.Errorf("%x", b)
	}
	if n, _ := f.Len("a.log"); n != 0 {
		t.Error(n)
	}
	opensNot(t, "still", f, "a", api.ErrSum)
	right := append(batchOf(api.Write{No: 0, B: stands(0, now.page(0))}), "done"...)
	opensNot(t, "pages are missing", logged(old.file(), right), "a", api.ErrForm)
	// The journal is emptied also where page 0 isn't right.
	f = logged(make([]byte, 512), []byte("no batch"))
	opensNot(t, "zeros", f, "a", api.ErrSum)
	if n, _ := f.Len("a.log"); n != 0 {
		t.Error(n)
	}
}

// P17.1: the store's errors, where the journal's pages are written: no room for them, or they begin behind the end; the journal stays.
func TestErrorsOfJournal(t *testing.T) {
	old, now, batch := journal()
	log := append(slices.Clone(batch), "done"...)
	f := logged(old.file(), log)
	for room := range 8 {
		fills(f, room)
		for range 2 {
			opensNot(t, fmt.Sprint(room, " sectors"), f, "a", api.ErrFull)
		}
		if b := whole(f, "a.log"); !bytes.Equal(b, log) {
			t.Errorf("name.log: %x", b)
		}
	}
	fills(f, 8)
	has(t, opened(t, f, "a"), now)
	committed(t, f, "a", now)
	far := append(batchOf(api.Write{No: 9, B: stands(9, nil)}), "done"...)
	f = logged(old.file(), far)
	opensNot(t, "behind the end", f, "a", api.ErrArg)
	isStanding(t, f, "behind the end", far, old.file())
	far = append(batchOf(api.Write{No: 1<<24 - 1, B: stands(9, nil)}), "done"...)
	opensNot(t, "far behind the end", logged(old.file(), far), "a", api.ErrArg)
}
