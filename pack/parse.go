package pack

import (
	"bytes"

	"marline/api"
	"marline/delta"
	"marline/sha"
	"marline/wire"
)

// Parse is the bytes of b's objects, and how many were read, beside an error
// too; base tells the objects elsewhere.
func Parse(b []byte, base func(id string) ([]byte, bool)) ([][]byte, int, api.Errno) {
	read, errno := readPack(b, base)
	if errno != api.OK {
		return nil, len(read), errno
	}
	objs := make([][]byte, 0, len(read))
	for _, e := range read {
		objs = append(objs, e.data)
	}
	return objs, len(objs), api.OK
}

// Index is a row for each of b's objects.
func Index(b []byte, base func(id string) ([]byte, bool)) ([]Row, api.Errno) {
	read, errno := readPack(b, base)
	if errno != api.OK {
		return nil, errno
	}
	rows := make([]Row, 0, len(read))
	for _, e := range read {
		rows = append(rows, Row{ID: sha.ID(e.data), Place: e.place, Depth: e.depth})
	}
	return rows, api.OK
}

// entry is an object that was read: its bytes, in memory of their own, where
// it begins, and its depth.
type entry struct {
	data         []byte
	place, depth int
}

// reader takes pieces from the front of b, a pack without the sum at its end.
// Each object is worked out from those in read, so that no chain is ever gone
// down again.
type reader struct {
	b    []byte
	at   int
	base func(id string) ([]byte, bool)
	read []entry
}

// readPack is b's objects; beside an error those ahead of the fault.
func readPack(b []byte, base func(id string) ([]byte, bool)) ([]entry, api.Errno) {
	if len(b) < leastSize {
		return nil, api.ErrShort
	}
	body := b[:len(b)-hashSize]
	if !bytes.Equal(b[len(body):], sha.Sum(body)) {
		return nil, api.ErrSum
	}
	r := &reader{b: body, base: base}
	count, errno := r.getHead()
	if errno != api.OK {
		return nil, errno
	}
	for range count {
		if errno := r.getObject(); errno != api.OK {
			return r.read, errno
		}
	}
	if r.at < len(r.b) {
		return r.read, api.ErrLong
	}
	return r.read, api.OK
}

// getHead takes what stands ahead of the objects, and answers how many there are.
func (r *reader) getHead() (int, api.Errno) {
	if !bytes.HasPrefix(r.b, []byte(mark)) {
		return 0, api.ErrForm
	}
	r.at = len(mark)
	count, errno := r.getNumber()
	if errno != api.OK {
		return 0, errno
	}
	if count > api.MaxPack {
		return 0, api.ErrLimit
	}
	return count, api.OK
}

// getObject takes the next object.
func (r *reader) getObject() api.Errno {
	e := entry{place: r.at}
	var errno api.Errno
	e.data, e.depth, errno = r.getBytes()
	if errno != api.OK {
		return errno
	}
	if !mayBe(e.data) {
		return api.ErrForm
	}
	r.read = append(r.read, e)
	return api.OK
}

// getBytes is the bytes and the depth of what is told next, whether it is an
// object or not.
func (r *reader) getBytes() ([]byte, int, api.Errno) {
	kind, errno := r.getPiece(1)
	if errno != api.OK {
		return nil, 0, errno
	}
	switch kind[0] {
	case whole:
		return r.getWhole()
	case ahead:
		return r.getAhead()
	case elsewhere:
		return r.getElsewhere()
	}
	return nil, 0, api.ErrForm
}

func (r *reader) getWhole() ([]byte, int, api.Errno) {
	size, errno := r.getNumber()
	if errno != api.OK {
		return nil, 0, errno
	}
	if size > api.MaxObj {
		return nil, 0, api.ErrLong
	}
	o, errno := r.getPiece(size)
	return bytes.Clone(o), 0, errno
}

func (r *reader) getAhead() ([]byte, int, api.Errno) {
	back, errno := r.getNumber()
	switch {
	case errno != api.OK:
		return nil, 0, errno
	case back == 0 || back > len(r.read):
		return nil, 0, api.ErrNone
	}
	by := r.read[len(r.read)-back]
	if by.depth >= api.MaxChain {
		return nil, 0, api.ErrLimit
	}
	return r.getBy(by.data, by.depth+1)
}

func (r *reader) getElsewhere() ([]byte, int, api.Errno) {
	hash, errno := r.getPiece(hashSize)
	if errno != api.OK {
		return nil, 0, errno
	}
	id := sha.Hex(hash)
	from, ok := ask(r.base, id)
	switch {
	case !ok:
		return nil, 0, api.ErrNone
	case sha.ID(from) != id:
		return nil, 0, api.ErrSum
	}
	return r.getBy(from, 1)
}

// getBy is what the delta that stands next makes of from.
func (r *reader) getBy(from []byte, depth int) ([]byte, int, api.Errno) {
	size, errno := r.getNumber()
	if errno != api.OK {
		return nil, 0, errno
	}
	d, errno := r.getPiece(size)
	if errno != api.OK {
		return nil, 0, errno
	}
	o, errno := delta.Apply(from, d)
	return o, depth, errno
}

// ask is what base tells of id. A base that is none, or that panics, has told
// nothing: no call of this package panics, whatever it is given.
func ask(base func(id string) ([]byte, bool), id string) (b []byte, ok bool) {
	defer func() {
		if recover() != nil {
			b, ok = nil, false
		}
	}()
	return base(id)
}

// getNumber takes a number as wire.Put writes it.
func (r *reader) getNumber() (int, api.Errno) {
	n, end, errno := wire.Get(r.b, r.at)
	if errno != api.OK {
		return 0, errno
	}
	r.at = end
	return n, api.OK
}

// getPiece takes so many bytes, as they lie in b.
func (r *reader) getPiece(size int) ([]byte, api.Errno) {
	if size > len(r.b)-r.at {
		return nil, api.ErrShort
	}
	r.at += size
	return r.b[r.at-size : r.at], api.OK
}
