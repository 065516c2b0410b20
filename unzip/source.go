package unzip

import (
	"bytes"

	"inquest/api"
	"inquest/inflate"
)

// source is what content comes from: an unpacker, or plain data.
type source interface {
	// Get hands out the next bytes, at most so many: fewer, without an error, only if there are no more.
	Get(most int) ([]byte, api.Errno)
	// Rest is how many bytes of the data are behind the content, when all of that was handed out.
	Rest() int
	// Held is how many bytes that were handed out are kept.
	Held() int
}

// sourceOf is where the content of these data comes from, by one of the methods that there are.
func sourceOf(data []byte, method int) source {
	if method == asIs {
		return &plain{bytes.Clone(data)}
	}
	r := inflate.New()
	r.Put(data)
	return r
}

// plain are data that are content as they are.
type plain struct{ left []byte }

// Get hands out the next bytes.
func (p *plain) Get(most int) ([]byte, api.Errno) {
	n := min(most, len(p.left))
	out := bytes.Clone(p.left[:n])
	p.left = p.left[n:]
	return out, api.OK
}

// Rest is 0: all of the data are content.
func (p *plain) Rest() int { return 0 }

// Held is 0: what was handed out isn't looked back at.
func (p *plain) Held() int { return 0 }
