package table

import (
	"maps"
	"slices"
	"strings"

	"marline/api"
	"marline/names"
	"marline/obj"
	"marline/wire"
)

// Build is the hash of the tree that has the rows of l, and the bytes of all
// trees that it needs.
func Build(l []api.Row) (string, [][]byte, api.Errno) {
	if !May(l) {
		return "", nil, api.ErrRange
	}
	within := contents{}
	for _, row := range l {
		within.put(row.Path, row.Entry)
	}
	trees := map[string][]byte{}
	// From the back: a directory's own ones, which stand behind it, are ahead.
	for _, dir := range slices.Backward(directories(l)) {
		within.put(dir, api.Entry{Mode: api.Dir, ID: within.build(dir, trees)})
	}
	top := within.build("", trees)
	return top, inOrder(trees), api.OK
}

// contents is what stands in each directory; the top is the empty text.
type contents map[string][]obj.Item

func (c contents) put(path string, e api.Entry) {
	dir, name := cut(path)
	c[dir] = append(c[dir], obj.Item{Mode: e.Mode, Name: name, ID: e.ID})
}

// build puts a directory's tree to the others, and answers its hash.
func (c contents) build(dir string, trees map[string][]byte) string {
	items := c[dir]
	slices.SortFunc(items, func(a, b obj.Item) int { return wire.Compare(a.Name, b.Name) })
	tree := treeOf(items...)
	// The rows may be, so the tree may be: there is no error.
	b, _ := obj.Encode(tree)
	id, _ := obj.ID(tree)
	trees[id] = b
	return id
}

func treeOf(items ...obj.Item) obj.Obj {
	return obj.Obj{Kind: obj.Tree, Items: items}
}

// directories is all directories that the rows of l stand in but the top,
// rising, each once.
func directories(l []api.Row) []string {
	var dirs []string
	for _, row := range l {
		dirs = append(dirs, names.Parents(row.Path)...)
	}
	return wire.Unique(dirs)
}

// cut is the directory that a path stands in, and the path's last name.
func cut(path string) (dir, name string) {
	end := strings.LastIndexByte(path, '/')
	if end < 0 {
		return "", path
	}
	return path[:end], path[end+1:]
}

// inOrder is the bytes of trees, rising by hash.
func inOrder(trees map[string][]byte) [][]byte {
	var l [][]byte
	for _, id := range slices.Sorted(maps.Keys(trees)) {
		l = append(l, trees[id])
	}
	return l
}
