package inflate

import (
	"inquest/api"
	"inquest/bits"
)

// piece is how many bytes of the input are made bits at once: a reader of bits keeps what was taken, so it has to be a new one now and then.
const piece = 4096

// source is the input.
type source struct {
	// rest has the bytes of which not all bits were taken when bits was made, and those behind them; bits has the first fed of them.
	rest []byte
	fed  int
	bits *bits.Reader
}

// put has b behind.
func (s *source) put(b []byte) { s.rest = append(s.rest, b...) }

// feed makes more bytes bits, and forgets those that were taken; false, if there are no more.
func (s *source) feed() bool {
	if s.fed == len(s.rest) {
		return false
	}
	taken := s.bits.Mark()
	s.rest = s.rest[taken/8:]
	s.fed = min(len(s.rest), s.fed-taken/8+piece)
	s.bits = bits.Read(s.rest[:s.fed])
	s.bits.Bits(taken % 8)
	return true
}

// whole takes a part, or nothing, if the input ends ahead of the part's end.
func (s *source) whole(part func() api.Errno) api.Errno {
	mark := s.bits.Mark()
	e := part()
	if e == api.ErrEnd {
		s.bits.Back(mark)
	}
	return e
}

// behind is how many whole bytes there are behind what was taken.
func (s *source) behind() int { return len(s.rest) - (s.bits.Mark()+7)/8 }

// spread takes the bits of a code's own, and tells the number that it stands for with them. The codes are in rows, so many in each: from the third row on each row's codes have one bit more than the row's ahead.
func (s *source) spread(code, row int) (int, api.Errno) {
	if code < 2*row {
		return code, api.OK
	}
	own := code/row - 1
	v, is := s.bits.Bits(own)
	if !is {
		return 0, api.ErrEnd
	}
	return (row+code%row)<<own + v, api.OK
}
