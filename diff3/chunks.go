package diff3

import (
	"slices"

	"marline/api"
	"marline/lines"
)

// Kinds
const (
	Stable   = 1
	OnlyA    = 2
	OnlyB    = 3
	Both     = 4
	Conflict = 5
)

// Chunk is lines of three texts that stand for one another; Kind tells who changed them.
type Chunk struct {
	Kind    int
	O, A, B []string
}

// place is a line of each of three texts, as far as they are gone through.
type place struct {
	o, a, b int
}

// on is the place so many lines on.
func (p place) on(n int) place {
	return place{o: p.o + n, a: p.a + n, b: p.b + n}
}

// Chunks is the chunks that o, a and b are made of, from the front.
func Chunks(o, a, b []string) ([]Chunk, api.Errno) {
	left, errno := lines.Match(o, a)
	if errno != api.OK {
		return nil, errno
	}
	right, errno := lines.Match(o, b)
	if errno != api.OK {
		return nil, errno
	}
	var chunks []Chunk
	rest := kept(left, right)
	at, end := place{}, place{o: len(o), a: len(a), b: len(b)}
	for at != end {
		stable := together(rest, at)
		next := end
		if stable > 0 {
			next = at.on(stable)
			rest = rest[stable:]
		} else if len(rest) > 0 {
			next = rest[0]
		}
		c := Chunk{Kind: Stable, O: fresh(o[at.o:next.o]), A: fresh(a[at.a:next.a]), B: fresh(b[at.b:next.b])}
		if stable == 0 {
			c.Kind = changed(c.O, c.A, c.B)
		}
		chunks = append(chunks, c)
		at = next
	}
	return chunks, api.OK
}

// kept is the places of the lines of o that both matches pair, rising.
func kept(left, right []lines.Pair) []place {
	var l []place
	for len(left) > 0 && len(right) > 0 {
		p, q := left[0], right[0]
		if p.A == q.A {
			l = append(l, place{o: p.A, a: p.B, b: q.B})
		}
		if p.A <= q.A {
			left = left[1:]
		}
		if q.A <= p.A {
			right = right[1:]
		}
	}
	return l
}

// together is how many of the kept lines stand at a place, one beside the other
// in each text.
func together(l []place, at place) int {
	n := 0
	for n < len(l) && l[n] == at.on(n) {
		n++
	}
	return n
}

// changed tells by the lines of a chunk who changed them.
func changed(o, a, b []string) int {
	switch {
	case slices.Equal(b, o):
		return OnlyA
	case slices.Equal(a, o):
		return OnlyB
	case slices.Equal(a, b):
		return Both
	}
	return Conflict
}

// fresh is a list in memory of its own.
func fresh(l []string) []string {
	return append([]string(nil), l...)
}
