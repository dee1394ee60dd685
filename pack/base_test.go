package pack_test

import (
	"bytes"
	"slices"
	"testing"

	"marline/api"
	"marline/delta"
	"marline/pack"
)

// byFar is a pack of one object by the far one.
func byFar() []byte {
	return packOf(elsewhereOf(hashOf(far()), delta.Make(far(), near())))
}

func near() []byte { return blob("0123456789 far away, or near") }

func TestWhatBaseTells(t *testing.T) { // P10.2, P0.1
	for _, c := range []struct {
		name string
		base baseFunc
		want api.Errno
	}{
		{"the far one", func(string) ([]byte, bool) { return far(), true }, api.OK},
		{"the far one, and false", func(string) ([]byte, bool) { return far(), false }, api.ErrNone},
		{"nothing, and false", nothing, api.ErrNone},
		{"nothing, and true", func(string) ([]byte, bool) { return nil, true }, api.ErrSum},
		{"another one", func(string) ([]byte, bool) { return near(), true }, api.ErrSum},
		{"the far one without its last byte", func(string) ([]byte, bool) { return far()[:len(far())-1], true }, api.ErrSum},
		{"the far one with a byte more", func(string) ([]byte, bool) { return append(far(), 0), true }, api.ErrSum},
		{"its hash", func(string) ([]byte, bool) { return hashOf(far()), true }, api.ErrSum},
		{"no base", nil, api.ErrNone},
		{"a base that panics", func(string) ([]byte, bool) { panic("no") }, api.ErrNone},
		{"a base that falls", func(string) ([]byte, bool) { return far()[: len(far())+1 : 1], true }, api.ErrNone},
	} {
		l, n, errno := pack.Parse(byFar(), c.base)
		rows, rowsErrno := pack.Index(byFar(), c.base)
		read := 0
		if c.want == api.OK {
			read = 1
		}
		if errno != c.want || rowsErrno != c.want || n != read || len(l) != read || len(rows) != read {
			t.Errorf("%s: Parse = %d objects, %d, %d, Index = %v, %d, want %d", c.name, len(l), n, errno, rows, rowsErrno, c.want)
		}
	}
}

// A hash that does not fit goes ahead of the delta's length, none there ahead
// of the hash.
func TestWhatBaseTellsGoesAhead(t *testing.T) { // P10.2
	lies := func(string) ([]byte, bool) { return []byte("lies"), true }
	for _, tail := range [][]byte{nil, {128}, {129, 0}, {5}, {2, 9, 9}, over(), slices.Concat([]byte{2}, deltaOf(4, 0))} {
		b := closed(bodyOf(2, wholeOf(far()), []byte{2}, hashOf(far()), tail))
		if _, n, errno := pack.Parse(b, lies); n != 1 || errno != api.ErrSum {
			t.Errorf("lies, then % x: %d, %d", tail, n, errno)
		}
		if _, n, errno := pack.Parse(b, nothing); n != 1 || errno != api.ErrNone {
			t.Errorf("none, then % x: %d, %d", tail, n, errno)
		}
	}
}

// Without objects elsewhere no base is needed.
func TestNoBaseIsNeeded(t *testing.T) { // P10.2, P10.5
	objs := numbered(20)
	b, _ := pack.Write(objs)
	falls := func(string) ([]byte, bool) {
		t.Error("it is asked")
		return nil, false
	}
	for _, base := range []baseFunc{nil, falls} {
		if l, n, errno := pack.Parse(b, base); errno != api.OK || n != 20 || !sameObjs(l, objs) {
			t.Errorf("Parse: %d, %d", n, errno)
		}
		if rows, errno := pack.Index(b, base); errno != api.OK || len(rows) != 20 {
			t.Errorf("Index: %v, %d", rows, errno)
		}
	}
}

// Base is asked by hashes as texts, for each object elsewhere when it comes;
// of a pack without its sum nothing is asked.
func TestWhatBaseIsAsked(t *testing.T) { // P10.2
	other := blob("another one")
	again := delta.Make(far(), far())
	b := packOf(elsewhereOf(hashOf(far()), again), wholeOf(other), aheadOf(2, again), elsewhereOf(hashOf(other), delta.Make(other, near())), elsewhereOf(hashOf(far()), again), elsewhereOf(hashOf(near()), again))
	var asked []string
	base := func(id string) ([]byte, bool) {
		asked = append(asked, id)
		return shelf{far(), other}.base(id)
	}
	want := []string{idOf(far()), idOf(other), idOf(far()), idOf(near())}
	if _, n, errno := pack.Parse(b, base); n != 5 || errno != api.ErrNone || !slices.Equal(asked, want) {
		t.Errorf("Parse: %d, %d; asked %v, want %v", n, errno, asked, want)
	}
	asked = nil
	if _, errno := pack.Index(b, base); errno != api.ErrNone || !slices.Equal(asked, want) {
		t.Errorf("Index: %d; asked %v, want %v", errno, asked, want)
	}
	asked = nil
	b[len(b)-1]++
	if _, _, errno := pack.Parse(b, base); errno != api.ErrSum || len(asked) > 0 {
		t.Errorf("asked of a pack with another sum: %v, %d", asked, errno)
	}
}

// A base may tell all in one place, written over by the next one.
func TestBaseMayWriteOver(t *testing.T) { // P10.4
	s := shelf{far(), near(), blob("a third one")}
	var pieces, want [][]byte
	for i := range 12 {
		o := blob(string(s[i%3]) + "!")
		pieces = append(pieces, elsewhereOf(hashOf(s[i%3]), delta.Make(s[i%3], o)))
		want = append(want, o)
	}
	place := make([]byte, 100)
	base := func(id string) ([]byte, bool) {
		told, ok := s.base(id)
		clear(place)
		return place[:copy(place, told)], ok
	}
	l, n, errno := pack.Parse(packOf(pieces...), base)
	clear(place)
	if errno != api.OK || n != 12 || !sameObjs(l, want) {
		t.Errorf("%q, %d, %d", l, n, errno)
	}
}

// A base may itself parse a pack, and index it.
func TestBaseMayParse(t *testing.T) { // P0.5
	within := packOf(wholeOf(blob("hi")), wholeOf(far()))
	base := func(id string) ([]byte, bool) {
		rows, _ := pack.Index(within, nothing)
		l, _, _ := pack.Parse(within, nothing)
		for i, r := range rows {
			if r.ID == id {
				return l[i], true
			}
		}
		return nil, false
	}
	if l, n, errno := pack.Parse(byFar(), base); errno != api.OK || n != 1 || !bytes.Equal(l[0], near()) {
		t.Errorf("%q, %d, %d", l, n, errno)
	}
}
