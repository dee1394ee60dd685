package pack_test

import (
	"bytes"
	"crypto/sha256"
	"encoding/binary"
	"encoding/hex"
	"fmt"
	"math/rand"
	"slices"

	"marline/api"
	"marline/delta"
	"marline/obj"
	"marline/pack"
)

// What the chapter says of packs, said in another way: sums and numbers by
// the library, and each rule held against each piece, in the order of the
// chapter's words. Deltas and objects are those of the layers below.

type baseFunc = func(id string) ([]byte, bool)

func nothing(id string) ([]byte, bool) { return nil, false }

func number(n int) []byte {
	return binary.AppendUvarint(nil, uint64(n))
}

// closed is a body with its sum behind it.
func closed(body []byte) []byte {
	sum := sha256.Sum256(body)
	return slices.Concat(body, sum[:])
}

func hashOf(b []byte) []byte {
	sum := sha256.Sum256(b)
	return sum[:]
}

func idOf(b []byte) string {
	return hex.EncodeToString(hashOf(b))
}

func wholeOf(o []byte) []byte {
	return slices.Concat([]byte{0}, number(len(o)), o)
}

func aheadOf(back int, d []byte) []byte {
	return slices.Concat([]byte{1}, number(back), number(len(d)), d)
}

func elsewhereOf(hash, d []byte) []byte {
	return slices.Concat([]byte{2}, hash, number(len(d)), d)
}

func bodyOf(count int, pieces ...[]byte) []byte {
	return slices.Concat([]byte("MP1"), number(count), bytes.Join(pieces, nil))
}

// packOf is the pack with these pieces, each of which is an object.
func packOf(pieces ...[]byte) []byte {
	return closed(bodyOf(len(pieces), pieces...))
}

func writtenOf(objs [][]byte) ([]byte, api.Errno) {
	isObject := func(o []byte) bool {
		_, errno := obj.Decode(o)
		return errno == api.OK
	}
	switch {
	case len(objs) > 512:
		return nil, api.ErrLimit
	case slices.ContainsFunc(objs, func(o []byte) bool { return len(o) > 20000 }):
		return nil, api.ErrLong
	case slices.ContainsFunc(objs, func(o []byte) bool { return !isObject(o) }):
		return nil, api.ErrForm
	}
	var pieces [][]byte
	var depths []int
	for i, o := range objs {
		piece, depth := wholeOf(o), 0
		by := -1
		for j := range i {
			if objs[j][0] == o[0] && depths[j] <= 7 {
				by = j
			}
		}
		if by >= 0 {
			if d := delta.Make(objs[by], o); len(d) < len(o) {
				piece, depth = aheadOf(i-by, d), depths[by]+1
			}
		}
		pieces, depths = append(pieces, piece), append(depths, depth)
	}
	return packOf(pieces...), api.OK
}

type row struct {
	bytes        []byte
	place, depth int
}

// A strict reader keeps the first error that it met.
type strict struct {
	rest  []byte
	errno api.Errno
}

func (s *strict) refuse(when bool, errno api.Errno) {
	if s.errno == api.OK && when {
		s.errno = errno
	}
}

func (s *strict) number() int {
	size := 1 + slices.IndexFunc(s.rest, func(c byte) bool { return c < 128 })
	s.refuse(size == 0, api.ErrShort)
	n, read := binary.Uvarint(s.rest)
	s.refuse(read != size || n > 1<<56 || !bytes.Equal(number(int(n)), s.rest[:size]), api.ErrForm)
	if s.errno != api.OK {
		return 0
	}
	s.rest = s.rest[size:]
	return int(n)
}

func (s *strict) take(size int) []byte {
	s.refuse(len(s.rest) < size, api.ErrShort)
	if s.errno != api.OK {
		return nil
	}
	piece := s.rest[:size]
	s.rest = s.rest[size:]
	return piece
}

func parsedOf(b []byte, base baseFunc) ([]row, api.Errno) {
	if len(b) < 36 {
		return nil, api.ErrShort
	}
	s := strict{rest: b[:len(b)-32]}
	s.refuse(!bytes.HasSuffix(b, hashOf(s.rest)), api.ErrSum)
	s.refuse(!bytes.Equal(s.take(3), []byte("MP1")), api.ErrForm)
	count := s.number()
	s.refuse(count > 512, api.ErrLimit)
	var rows []row
	for s.errno == api.OK && len(rows) < count {
		next := s.row(rows, base)
		next.place = len(b) - 32 - next.place
		if s.errno == api.OK {
			rows = append(rows, next)
		}
	}
	s.refuse(len(s.rest) > 0, api.ErrLong)
	return rows, s.errno
}

// row's place is still counted from the body's end.
func (s *strict) row(rows []row, base baseFunc) row {
	r := row{place: len(s.rest)}
	kind := s.take(1)
	s.refuse(len(kind) > 0 && kind[0] > 2, api.ErrForm)
	if s.errno != api.OK {
		return r
	}
	var from []byte
	switch kind[0] {
	case 0:
		size := s.number()
		s.refuse(size > 20000, api.ErrLong)
		r.bytes = s.take(size)
	case 1:
		back := s.number()
		s.refuse(back < 1 || back > len(rows), api.ErrNone)
		if s.errno == api.OK {
			from, r.depth = rows[len(rows)-back].bytes, 1+rows[len(rows)-back].depth
		}
		s.refuse(r.depth > 8, api.ErrLimit)
	default:
		hash := s.take(32)
		if s.errno == api.OK {
			told, ok := base(hex.EncodeToString(hash))
			s.refuse(!ok, api.ErrNone)
			s.refuse(!bytes.Equal(hashOf(told), hash), api.ErrSum)
			from, r.depth = told, 1
		}
	}
	if kind[0] > 0 {
		d := s.take(s.number())
		told, errno := delta.Apply(from, d)
		s.refuse(errno != api.OK, errno)
		r.bytes = told
	}
	_, errno := obj.Decode(r.bytes)
	s.refuse(errno != api.OK, api.ErrForm)
	return r
}

func blob(data string) []byte {
	return []byte("\x01" + data)
}

// tree is the bytes of a Tree with these names.
func tree(names ...string) []byte {
	o := obj.Obj{Kind: obj.Tree}
	for _, name := range names {
		o.Items = append(o.Items, obj.Item{Mode: api.Plain, Name: name, ID: idOf([]byte(name))})
	}
	return mustEncode(o)
}

func commit(msg string, parents ...string) []byte {
	return mustEncode(obj.Obj{Kind: obj.Commit, Tree: idOf(tree()), Parents: parents, Stamp: 300, Author: 3, Msg: msg})
}

func mustEncode(o obj.Obj) []byte {
	b, errno := obj.Encode(o)
	if errno != api.OK {
		panic(fmt.Sprint("no object: ", errno))
	}
	return b
}

// unlike is size bytes none of whose pieces of 8 comes again, nor stands in
// what another seed gives.
func unlike(size, seed int) []byte {
	b := make([]byte, size)
	rand.New(rand.NewSource(int64(seed))).Read(b)
	return b
}

// someObjs are objects of each kind, many of them much like ones ahead.
func someObjs(r *rand.Rand, count int) [][]byte {
	var objs [][]byte
	for range count {
		switch r.Intn(6) {
		case 0:
			objs = append(objs, tree([]string{"a", "b", "c", "d", "e"}[:r.Intn(6)]...))
		case 1:
			objs = append(objs, commit(fmt.Sprint("a message ", r.Intn(1000))))
		case 2:
			objs = append(objs, blob(string(unlike(r.Intn(40), r.Int()))))
		default:
			objs = append(objs, blob(fmt.Sprint("a text that is much the same each time ", r.Intn(5), ", and ", r.Intn(200))))
		}
	}
	return objs
}

// shelf is objects elsewhere.
type shelf [][]byte

func (s shelf) base(id string) ([]byte, bool) {
	at := slices.IndexFunc(s, func(b []byte) bool { return idOf(b) == id })
	if at < 0 {
		return nil, false
	}
	return s[at], true
}

// someBody is a pack's body with these objects, told in any of the ways, by
// ones ahead or on the shelf, however long the deltas are and however deep.
func someBody(r *rand.Rand, objs [][]byte, s shelf) []byte {
	var pieces [][]byte
	for i, o := range objs {
		switch way := r.Intn(5); {
		case way == 0 && len(s) > 0:
			from := s[r.Intn(len(s))]
			pieces = append(pieces, elsewhereOf(hashOf(from), delta.Make(from, o)))
		case way < 2 || i == 0:
			pieces = append(pieces, wholeOf(o))
		default:
			back := 1 + r.Intn(min(i, 1+r.Intn(3)))
			pieces = append(pieces, aheadOf(back, delta.Make(objs[i-back], o)))
		}
	}
	return bodyOf(len(pieces), pieces...)
}

func rowsOf(rows []row) []pack.Row {
	var l []pack.Row
	for _, r := range rows {
		l = append(l, pack.Row{ID: idOf(r.bytes), Place: r.place, Depth: r.depth})
	}
	return l
}

func objsOf(rows []row) [][]byte {
	var l [][]byte
	for _, r := range rows {
		l = append(l, r.bytes)
	}
	return l
}

func sameObjs(a, b [][]byte) bool {
	return slices.EqualFunc(a, b, bytes.Equal)
}
