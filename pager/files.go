package pager

import (
	"inquest/api"
	"inquest/page"
	"inquest/vfs"
	"inquest/wal"
)

const (
	// dbEnd and logEnd are what the files' names end with, behind the pager's.
	dbEnd  = ".db"
	logEnd = ".log"
	// longest is how many bytes a pager's name may have, so that both names are right.
	longest = api.MaxPath - len(logEnd)
	// done stands behind the batch in the journal, when that is to be written to the pages: 64 6f 6e 65.
	done = "done"
)

// files are the two in which a pager stands: its pages, and the journal.
type files struct {
	store   *vfs.FS
	db, log string
}

func filesOf(f *vfs.FS, name string) files {
	return files{store: f, db: name + dbEnd, log: name + logEnd}
}

// right tells whether a pager may have that name.
func right(name string) bool {
	if len(name) < 1 || len(name) > longest {
		return false
	}
	for i := range len(name) {
		if !rightByte(name[i]) {
			return false
		}
	}
	return true
}

// rightByte tells whether the store has files with that byte in their names.
func rightByte(c byte) bool {
	return 'a' <= c && c <= 'z' || '0' <= c && c <= '9' || c == '.' || c == '-' || c == '/'
}

// takes is how many sectors so many bytes take.
func takes(long int) int { return (long + api.Sector - 1) / api.Sector }

// sealed is the page as it is written.
func sealed(no int, b block) api.Write {
	// All numbers of a pager may be, and a block has the bytes of a page.
	s, _ := page.Seal(no, b[:])
	return api.Write{No: no, B: s}
}

// long is how many bytes the file of the pages has.
func (f files) long() int {
	n, _ := f.store.Len(f.db)
	return n
}

// read is what the page has in the file.
func (f files) read(no int) (block, api.Errno) {
	b, e := f.store.Read(f.db, no*api.Page, api.Page)
	if e != api.OK {
		return block{}, e
	}
	if b, e = page.Open(no, b); e != api.OK {
		return block{}, e
	}
	return blockOf(b), api.OK
}

// open lets both files be there, and the journal be empty, done or given up.
func (f files) open() api.Errno {
	for _, name := range []string{f.db, f.log} {
		if _, is := f.store.Len(name); is {
			continue
		}
		if e := f.store.Create(name); e != api.OK {
			return e
		}
	}
	return f.settle()
}

// settle writes what the journal tells to the pages, if it is whole, and empties it.
func (f files) settle() api.Errno {
	long, _ := f.store.Len(f.log)
	if long == 0 {
		return api.OK
	}
	b, e := f.store.Read(f.log, 0, long)
	if e != api.OK {
		return e
	}
	l, e := wal.Get(b)
	if e != api.OK || string(b[wal.Size(len(l)):]) != done {
		return f.empty()
	}
	return f.write(l)
}

// write lets the pages of the journal last where they belong, and empties it.
func (f files) write(l []api.Write) api.Errno {
	for _, w := range l {
		if e := f.store.Write(f.db, w.No*api.Page, w.B); e != api.OK {
			return e
		}
	}
	if e := f.store.Sync(f.db); e != api.OK {
		return e
	}
	return f.empty()
}

// empty cuts the journal to nothing.
func (f files) empty() api.Errno { return f.store.Cut(f.log, 0) }

// hasRoom tells whether the store has room for a commit of so many pages that lets there be so many in all.
func (f files) hasRoom(batch, many int) bool {
	if f.store.Down() {
		// It tells no room then; what is to be told is the error of what is written.
		return true
	}
	grows := max(0, takes(many*api.Page)-takes(f.long()))
	return f.store.Room() >= takes(wal.Size(batch)+len(done))+grows
}

// save lets the pages last, all together, by way of the journal.
func (f files) save(l []api.Write) api.Errno {
	b, e := wal.Put(l...)
	if e != api.OK {
		return e
	}
	if e := f.note(0, b); e != api.OK {
		return e
	}
	// Only what lasts already is said to be done.
	if e := f.note(len(b), []byte(done)); e != api.OK {
		return e
	}
	return f.write(l)
}

// note lets b last in the journal from at on.
func (f files) note(at int, b []byte) api.Errno {
	if e := f.store.Write(f.log, at, b); e != api.OK {
		return e
	}
	return f.store.Sync(f.log)
}
