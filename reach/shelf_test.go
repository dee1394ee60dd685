package reach_test

import (
	"slices"
	"strconv"
	"strings"
	"testing"

	"marline/api"
	"marline/obj"
	"marline/sha"
)

// shelf has bytes by hashes, or by what is told to be one.
type shelf map[string][]byte

func (s shelf) source(id string) ([]byte, bool) {
	b, ok := s[id]
	return b, ok
}

func encoded(o obj.Obj) []byte {
	b, errno := obj.Encode(o)
	if errno != api.OK {
		panic(errno)
	}
	return b
}

// add puts an object onto the shelf, by its hash.
func (s shelf) add(o obj.Obj) string {
	b := encoded(o)
	s[sha.ID(b)] = b
	return sha.ID(b)
}

func blobOf(text string) obj.Obj { return obj.Obj{Kind: obj.Blob, Data: []byte(text)} }

// treeOf has an item for each id, of all modes in turn.
func treeOf(ids ...string) obj.Obj {
	o := obj.Obj{Kind: obj.Tree}
	for i, id := range ids {
		o.Items = append(o.Items, obj.Item{Mode: 1 + i%4, Name: "n" + strconv.Itoa(1000+i), ID: id})
	}
	return o
}

func commitOf(stamp int, tree string, parents ...string) obj.Obj {
	return obj.Obj{Kind: obj.Commit, Tree: tree, Parents: sorted(parents...), Stamp: stamp}
}

func sorted(l ...string) []string { return slices.Sorted(slices.Values(l)) }

// made is a hash that is no one's, but what a shelf says.
func made(n int) string {
	digits := strconv.Itoa(n)
	return strings.Repeat("0", 64-len(digits)) + digits
}

// counted is a source that counts how often it is asked of what.
func counted(s shelf) (func(id string) ([]byte, bool), map[string]int) {
	times := map[string]int{}
	return func(id string) ([]byte, bool) {
		times[id]++
		return s.source(id)
	}, times
}

// wantOnce holds that just these were asked of, once each.
func wantOnce(t *testing.T, what string, times map[string]int, ids []string) {
	t.Helper()
	for id, n := range times {
		if n != 1 || !slices.Contains(ids, id) {
			t.Errorf("%s: asked %d times of %s", what, n, id)
		}
	}
	if len(times) != len(ids) {
		t.Errorf("%s: asked of %d, want %d", what, len(times), len(ids))
	}
}

// small is a shelf with a history of three commits, and what is beside it.
type small struct {
	shelf
	x, y, empty, sub, top, one, two, three, gone, torn, raw string
}

func newSmall() small {
	s := small{shelf: shelf{}}
	s.x, s.y = s.add(blobOf("x")), s.add(blobOf("y"))
	s.empty = s.add(treeOf())
	s.sub = s.add(treeOf(s.x))
	s.top = s.add(treeOf(s.sub, s.x, s.y))
	s.one = s.add(commitOf(1, s.empty))
	s.two = s.add(commitOf(2, s.top, s.one))
	s.three = s.add(commitOf(7, s.sub, s.one, s.two))
	s.gone = sha.ID([]byte("gone"))
	s.torn = s.add(commitOf(9, s.gone, s.two))
	s.raw = made(1)
	s.shelf[s.raw] = []byte{9}
	return s
}
