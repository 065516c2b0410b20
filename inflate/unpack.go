package inflate

import (
	"inquest/api"
)

// What comes next.
const (
	aHead = iota // a block's
	aStored
	aSymbol
	aCopy
	nothing // the last block has ended
	wrong   // what isn't right
)

// unpack unpacks at most so many bytes, and goes on behind them till a byte more would come: so the end is seen when the last byte has come.
func (r *Reader) unpack(most int) ([]byte, api.Errno) {
	var out []byte
	var e api.Errno
again:
	switch r.next {
	case aHead:
		goto head
	case aStored:
		goto stored
	case aSymbol:
		goto symbol
	case aCopy:
		goto copied
	case nothing:
		return out, api.OK
	}
	return out, api.ErrData
head:
	if e = r.in.whole(r.takeHead); e != api.OK {
		goto halt
	}
	goto again
stored:
	for ; r.left > 0; r.left-- {
		if len(out) == most {
			return out, api.OK
		}
		if e = r.takeByte(); e != api.OK {
			goto halt
		}
		out = append(out, r.kept.add(r.one))
	}
	goto end
symbol:
	if e = r.in.whole(r.takeSymbol); e != api.OK {
		goto halt
	}
	if r.left == 0 {
		goto end
	}
	r.next = aCopy
copied:
	for ; r.left > 0; r.left-- {
		if len(out) == most {
			return out, api.OK
		}
		out = append(out, r.kept.add(r.copied()))
	}
	r.next = aSymbol
	goto symbol
end:
	r.endBlock()
	goto again
halt:
	if e == api.ErrEnd && r.in.feed() {
		goto again
	}
	if e == api.ErrData {
		r.next, r.in = wrong, source{}
	}
	return out, e
}

// takeByte takes a stored byte.
func (r *Reader) takeByte() api.Errno {
	v, is := r.in.bits.Bits(8)
	if !is {
		return api.ErrEnd
	}
	r.one = byte(v)
	return api.OK
}

// copied is the byte that comes next of what a symbol tells.
func (r *Reader) copied() byte {
	if r.back == 0 {
		return r.one
	}
	return r.kept.ago(r.back)
}

// endBlock ends a block. Behind the last one nothing of the input is looked at any more, so none is kept.
func (r *Reader) endBlock() {
	r.next = aHead
	if r.last {
		r.next, r.behind, r.in = nothing, r.in.behind(), source{}
	}
}
