package unzip

import (
	"inquest/api"
	"inquest/crc"
)

// mostAtOnce is how many bytes Next hands out at the most.
const mostAtOnce = 1 << 16

// Stream is an entry's content, piece by piece.
type Stream struct {
	// from is nil when all was told, and when an error was met: nothing is kept then.
	from source
	// left is how many bytes of the content are to come, sum that of those which came, wanted that of all.
	left   int
	sum    *crc.Sum
	wanted uint32
	// e is the error that was met.
	e api.Errno
}

// Read is the entry's content, of which nothing was told yet.
func Read(b []byte, f api.File) *Stream {
	if !within(f.At, f.Csize, len(b)) || !readable(f.Method) || f.Size < 0 || f.Size > mostContent {
		return &Stream{e: api.ErrArg}
	}
	s := &Stream{from: sourceOf(b[f.At:f.At+f.Csize], f.Method), left: f.Size, sum: crc.New(), wanted: f.Crc}
	// A content of no bytes ends here.
	s.take(0)
	return s
}

// Next hands out the next bytes, at most so many.
func (s *Stream) Next(most int) ([]byte, api.Errno) {
	if s == nil {
		return nil, api.ErrNil
	}
	if s.from == nil {
		return nil, s.e
	}
	return s.take(min(max(1, min(most, mostAtOnce)), s.left))
}

// take takes n bytes, which must come. If these are the last ones, the end is looked at with them: so they aren't told if something isn't right, and Done needn't look.
func (s *Stream) take(n int) ([]byte, api.Errno) {
	out, e := s.from.Get(n)
	s.sum.Add(out)
	s.left -= len(out)
	switch {
	case e != api.OK:
	case len(out) < n:
		e = api.ErrSize
	case s.left > 0:
		return out, api.OK
	default:
		e = s.atEnd()
	}
	*s = Stream{e: e}
	if e != api.OK {
		return nil, e
	}
	return out, api.OK
}

// atEnd is what isn't right when as many bytes came as must.
func (s *Stream) atEnd() api.Errno {
	more, e := s.from.Get(1)
	switch {
	case len(more) > 0:
		return api.ErrSize
	case e != api.OK:
		return e
	case s.from.Rest() > 0:
		return api.ErrSize
	case s.sum.Sum() != s.wanted:
		return api.ErrSum
	}
	return api.OK
}

// Done tells whether all was told, without an error.
func (s *Stream) Done() bool { return s != nil && s.from == nil && s.e == api.OK }

// Held is how many bytes of content are kept.
func (s *Stream) Held() int {
	if s == nil || s.from == nil {
		return 0
	}
	return s.from.Held()
}
