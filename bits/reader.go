package bits

// Reader reads bits.
type Reader struct {
	// all has what was taken, too: Back may go to any mark.
	all []byte
	// at is how many bits were taken.
	at int
}

// Read reads the bits of all these, one behind the other.
func Read(l ...[]byte) *Reader {
	r := &Reader{}
	for _, b := range l {
		r.Add(b)
	}
	return r
}

// Add has b's bits behind those that there are.
func (r *Reader) Add(b []byte) {
	if r == nil {
		return
	}
	r.all = append(r.all, b...)
}

// Has tells whether there are n bits more.
func (r *Reader) Has(n int) bool { return r != nil && n <= r.Left() }

// Bits takes the next n bits, if there are so many.
func (r *Reader) Bits(n int) (int, bool) {
	v, is := r.Peek(n)
	if is {
		r.at += held(n)
	}
	return v, is
}

// Peek looks at the next n bits, if there are so many, and takes none.
func (r *Reader) Peek(n int) (int, bool) {
	n = held(n)
	if !r.Has(n) {
		return 0, false
	}
	within := r.at % 8
	v := 0
	for i := range (within + n + 7) / 8 {
		v |= int(r.all[r.at/8+i]) << (8 * i)
	}
	return lowest(n, v>>within), true
}

// Align takes bits till a byte begins, and tells how many.
func (r *Reader) Align() int {
	if r == nil {
		return 0
	}
	n := -r.at & 7
	r.at += n
	return n
}

// Left is how many bits are left.
func (r *Reader) Left() int {
	if r == nil {
		return 0
	}
	return 8*len(r.all) - r.at
}

// Mark is how many bits were taken.
func (r *Reader) Mark() int {
	if r == nil {
		return 0
	}
	return r.at
}

// Back goes back to a mark: what was taken behind it is to be taken again.
func (r *Reader) Back(mark int) {
	if r == nil || mark < 0 || mark > r.at {
		return
	}
	r.at = mark
}
