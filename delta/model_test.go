package delta_test

import (
	"bytes"
	"encoding/binary"
	"math/rand"
	"slices"
	"sort"

	"marline/api"
)

// What the chapter says of deltas, said in another way: pieces looked for by
// the library's search, numbers by its reader, and each rule of Apply held
// against each step, in the order of the chapter's words.

func number(n int) []byte {
	return binary.AppendUvarint(nil, uint64(n))
}

func head(base, target int) []byte {
	return append(number(base), number(target)...)
}

func copyOf(place, size int) []byte {
	return slices.Concat([]byte{1}, number(place), number(size))
}

func insertOf(piece string) []byte {
	return slices.Concat([]byte{2}, number(len(piece)), []byte(piece))
}

func deltaOf(base, target int, steps ...[]byte) []byte {
	return append(head(base, target), bytes.Join(steps, nil)...)
}

// matchOf is the least place, and the size, of the longest piece that wanted
// begins with: where one of a size stands, all shorter ones do.
func matchOf(base, wanted []byte) (int, int) {
	size := sort.Search(len(wanted), func(n int) bool { return !bytes.Contains(base, wanted[:n+1]) })
	return bytes.Index(base, wanted[:size]), size
}

func madeOf(base, target []byte) []byte {
	if len(base) > 20000 || len(target) > 20000 {
		return nil
	}
	var steps [][]byte
	inserted := ""
	flush := func() {
		if inserted != "" {
			steps = append(steps, insertOf(inserted))
		}
		inserted = ""
	}
	for rest := target; len(rest) > 0; {
		place, size := matchOf(base, rest)
		if size < 8 {
			inserted += string(rest[:1])
			rest = rest[1:]
			continue
		}
		flush()
		steps = append(steps, copyOf(place, size))
		rest = rest[size:]
	}
	flush()
	return deltaOf(len(base), len(target), steps...)
}

// A strict reader keeps the first error that it met.
type strict struct {
	rest  []byte
	errno api.Errno
}

func (s *strict) refuse(when bool, errno api.Errno) {
	if s.errno == api.OK && when {
		s.errno = errno
	}
}

func (s *strict) number() int {
	size := 1 + slices.IndexFunc(s.rest, func(c byte) bool { return c < 128 })
	s.refuse(size == 0, api.ErrShort)
	n, read := binary.Uvarint(s.rest)
	s.refuse(read != size || n > 1<<56 || !bytes.Equal(number(int(n)), s.rest[:size]), api.ErrForm)
	if s.errno != api.OK {
		return 0
	}
	s.rest = s.rest[size:]
	return int(n)
}

func sizesOf(d []byte) (int, int, api.Errno) {
	s := strict{rest: d}
	base, target := s.number(), s.number()
	if s.errno != api.OK {
		return 0, 0, s.errno
	}
	return base, target, api.OK
}

func appliedOf(base, d []byte) ([]byte, api.Errno) {
	s := strict{rest: d}
	from, to := s.number(), s.number()
	s.refuse(from != len(base), api.ErrSum)
	s.refuse(to > 20000, api.ErrLong)
	var target []byte
	for s.errno == api.OK && len(s.rest) > 0 {
		target = append(target, s.step(base, to-len(target))...)
	}
	s.refuse(len(target) < to, api.ErrShort)
	if s.errno != api.OK {
		return nil, s.errno
	}
	return target, api.OK
}

func (s *strict) step(base []byte, room int) []byte {
	kind, place := s.rest[0], 0
	s.rest = s.rest[1:]
	s.refuse(kind != 1 && kind != 2, api.ErrForm)
	if kind == 1 {
		place = s.number()
	}
	size := s.number()
	s.refuse(size == 0, api.ErrForm)
	s.refuse(kind == 1 && place+size > len(base), api.ErrRange)
	s.refuse(kind == 2 && size > len(s.rest), api.ErrShort)
	s.refuse(size > room, api.ErrLong)
	if s.errno != api.OK {
		return nil
	}
	if kind == 1 {
		return base[place : place+size]
	}
	piece := s.rest[:size]
	s.rest = s.rest[size:]
	return piece
}

func randomBytes(r *rand.Rand, n, letters int) []byte {
	b := make([]byte, n)
	for i := range b {
		b[i] = byte(r.Intn(letters))
	}
	return b
}

// piecesOf is a text of pieces of base, of about that size, with some other
// bytes between them.
func piecesOf(r *rand.Rand, base []byte, pieces, size, letters int) []byte {
	var target []byte
	for range pieces {
		if r.Intn(3) == 0 || len(base) == 0 {
			target = append(target, randomBytes(r, 1+r.Intn(5), letters)...)
			continue
		}
		at := r.Intn(len(base))
		end := min(at+1+r.Intn(2*size), len(base))
		target = append(target, base[at:end]...)
	}
	return target
}

// someTexts are bases with targets that have pieces of them: short and long,
// of few letters and of many.
func someTexts(r *rand.Rand, runs int) [][2][]byte {
	var texts [][2][]byte
	for i := range runs {
		letters := []int{1, 2, 3, 5, 256}[i%5]
		base := randomBytes(r, r.Intn(300), letters)
		texts = append(texts, [2][]byte{base, piecesOf(r, base, r.Intn(8), 12, letters)})
	}
	return texts
}
