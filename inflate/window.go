package inflate

import (
	"inquest/api"
)

// window has the bytes that came last, as many as copies reach back to.
type window struct {
	// bytes stand where they came, but from Window on each one stands where that stood which now is too far back.
	bytes []byte
	// all is how many bytes came.
	all int
}

// add has c come.
func (w *window) add(c byte) byte {
	if len(w.bytes) < api.Window {
		w.bytes = append(w.bytes, c)
	} else {
		w.bytes[w.all%api.Window] = c
	}
	w.all++
	return c
}

// ago is the byte that came so many bytes ago: 1 is the last one.
func (w *window) ago(n int) byte { return w.bytes[(w.all-n)%api.Window] }

// many is how many bytes there are.
func (w *window) many() int { return len(w.bytes) }
