package table_test

import (
	"fmt"
	"slices"
	"strconv"
	"strings"
	"testing"

	"marline/api"
	"marline/obj"
	"marline/sha"
)

// rounds lessens what is done many times, where little time is asked for.
func rounds(n int) int {
	if testing.Short() {
		return n / 10
	}
	return n
}

func id(s string) string { return sha.ID([]byte(s)) }

func row(path string, mode int) api.Row {
	return api.Row{Path: path, Entry: api.Entry{Mode: mode, ID: id(path)}}
}

// rows have all modes in turn.
func rows(paths ...string) []api.Row {
	var l []api.Row
	for i, path := range paths {
		l = append(l, row(path, 1+i%3))
	}
	return l
}

// numbered is so many rows, rising.
func numbered(n int) []api.Row {
	var l []api.Row
	for i := range n {
		l = append(l, row(fmt.Sprintf("%03d", i), api.Plain))
	}
	return l
}

// pathOf is a path of so many names and so many bytes: the last names are as
// long as may be.
func pathOf(count, size int) string {
	l := slices.Repeat([]string{"x"}, count)
	left := size - (2*count - 1)
	for i := range l {
		more := min(left, api.MaxName-1)
		l[count-1-i] += strings.Repeat("x", more)
		left -= more
	}
	return strings.Join(l, "/")
}

// shelf has bytes by hashes, or by what is told to be one.
type shelf map[string][]byte

func (s shelf) source(id string) ([]byte, bool) {
	b, ok := s[id]
	return b, ok
}

func encoded(items ...obj.Item) []byte {
	b, errno := obj.Encode(obj.Obj{Kind: obj.Tree, Items: items})
	if errno != api.OK {
		panic(errno)
	}
	return b
}

// add puts a tree onto the shelf, by its hash.
func (s shelf) add(items ...obj.Item) string {
	b := encoded(items...)
	s[sha.ID(b)] = b
	return sha.ID(b)
}

// put puts bytes onto the shelf, by their hash.
func (s shelf) put(b []byte) string {
	s[sha.ID(b)] = b
	return sha.ID(b)
}

// shelfOf is what Build made, by hashes.
func shelfOf(trees [][]byte) shelf {
	s := shelf{}
	for _, b := range trees {
		s.put(b)
	}
	return s
}

func file(name string) obj.Item {
	return obj.Item{Mode: api.Plain, Name: name, ID: id(name)}
}

func dir(name, id string) obj.Item {
	return obj.Item{Mode: api.Dir, Name: name, ID: id}
}

// below is the tree that has another one at a path of so many names `d`.
func (s shelf) below(tree string, count int) string {
	for range count {
		tree = s.add(dir("d", tree))
	}
	return tree
}

// made is a hash that is no one's, but what a shelf says.
func made(n int) string {
	digits := strconv.Itoa(n)
	return strings.Repeat("0", 64-len(digits)) + digits
}

// in is what a tree has of a row: its last name stands in the path.
func in(path string, mode int) obj.Item {
	e := row(path, mode)
	return obj.Item{Mode: mode, Name: path[strings.LastIndex(path, "/")+1:], ID: e.ID}
}
