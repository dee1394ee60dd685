package obj

import (
	"slices"

	"marline/api"
	"marline/sha"
	"marline/wire"
)

const hashSize = 32 // bytes of a hash

// Decode is the object whose bytes b are.
func Decode(b []byte) (Obj, api.Errno) {
	if len(b) == 0 {
		return Obj{}, api.ErrShort
	}
	r := reader{rest: b}
	o := r.object()
	if r.failed || len(r.rest) > 0 || !May(o) {
		return Obj{}, api.ErrForm
	}
	return o, api.OK
}

// A reader takes bytes from the front of the rest. When something doesn't
// stand there, it has failed, and no rest is left.
type reader struct {
	rest   []byte
	failed bool
}

func (r *reader) object() Obj {
	o := Obj{Kind: r.octet()}
	switch o.Kind {
	case Blob:
		o.Data = slices.Clone(r.take(len(r.rest)))
	case Tree:
		o.Items = r.items()
	case Commit:
		r.commit(&o)
	}
	return o
}

// items ends at a failure, for a number that is read may be far greater than
// what stands behind it.
func (r *reader) items() []Item {
	var items []Item
	for n := r.number(); n > 0 && !r.failed; n-- {
		items = append(items, Item{Mode: r.octet(), Name: r.text(), ID: r.hash()})
	}
	return items
}

func (r *reader) commit(o *Obj) {
	o.Tree = r.hash()
	for range r.octet() {
		o.Parents = append(o.Parents, r.hash())
	}
	o.Stamp = r.number()
	o.Author = r.number()
	o.Msg = r.text()
}

func (r *reader) fail() {
	r.rest, r.failed = nil, true
}

func (r *reader) take(n int) []byte {
	if n > len(r.rest) {
		r.fail()
		return nil
	}
	b := r.rest[:n]
	r.rest = r.rest[n:]
	return b
}

func (r *reader) octet() int {
	b := r.take(1)
	if len(b) == 0 {
		return 0
	}
	return int(b[0])
}

func (r *reader) number() int {
	n, end, errno := wire.Get(r.rest, 0)
	if errno != api.OK {
		r.fail()
		return 0
	}
	r.rest = r.rest[end:]
	return n
}

func (r *reader) text() string {
	return string(r.take(r.number()))
}

func (r *reader) hash() string {
	return sha.Hex(r.take(hashSize))
}
