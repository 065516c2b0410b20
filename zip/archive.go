package zip

import (
	"inquest/api"
	"inquest/crc"
	"inquest/deflate"
	"inquest/name"
	"inquest/record"
)

// How data may be packed: the first way, and the last one. Those between are layer 7's of the same numbers.
const (
	plain = 0
	best  = 3
)

// The methods that heads tell.
const (
	asIs   = 0
	packed = 8
)

// archive is what is made of the items so far.
type archive struct {
	// b is what is ahead of the central heads, heads are these, many is how many.
	b, heads []byte
	many     int
	// wide tells whether some item is.
	wide bool
}

// add puts i, which may be, behind the other items. An error is only told of a place so far behind that i's head, as it isn't wide, has no room for it.
func (a *archive) add(i api.Item) api.Errno {
	data, method := pack(i.Data, i.How)
	h := head(i)
	h.Method, h.Csize, h.At = method, len(data), len(a.b)
	local, e := record.Local(h)
	if e != api.OK {
		return e
	}
	central, e := record.Central(h)
	if e != api.OK {
		return e
	}
	a.b = append(a.b, local...)
	a.b = append(a.b, data...)
	a.b = append(a.b, record.Behind(h)...)
	a.heads = append(a.heads, central...)
	a.many++
	a.wide = a.wide || i.Wide
	return api.OK
}

// head is what i itself tells of its head.
func head(i api.Item) api.Head {
	raw, own := name.Encode(i.Name)
	h := api.Head{Dos: i.Dos, Crc: crc.Of(i.Data), Size: len(i.Data), Name: raw, Wide: i.Wide}
	if own {
		h.Flags |= api.Utf8
	}
	if i.Described {
		h.Flags |= api.Described
	}
	return h
}

// pack is b packed in this way, which there is, and by which method that is.
func pack(b []byte, how int) ([]byte, int) {
	switch how {
	case plain:
		return b, asIs
	case best:
		// What layer 7 stores has more bytes than b, so it never is the fewest here: b as it is takes its place.
		p, _ := deflate.Best(b)
		if len(b) <= len(p) {
			return b, asIs
		}
		return p, packed
	}
	// May has let through just what Pack packs.
	p, _ := deflate.Pack(b, how)
	return p, packed
}

// ended is the whole archive.
func (a *archive) ended() ([]byte, api.Errno) {
	tail := api.Tail{Many: a.many, Long: len(a.heads), At: len(a.b), Wide: a.wide}
	end, e := record.End(tail, len(a.b)+len(a.heads))
	if e != api.OK {
		return nil, e
	}
	return append(append(a.b, a.heads...), end...), api.OK
}
