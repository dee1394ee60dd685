package fsim

import (
	"maps"
	"slices"
	"strings"

	"marline/names"
)

// tree is files at paths, none of them Under another one.
type tree struct {
	files map[string]File
	under map[string]int // of each directory: how many files are Under it
	used  int            // bytes of all files' data
}

// change is a file that goes, one that comes, or both: what a Remove does,
// what a Create or a Write does, what a Move does.
type change struct {
	gone string // empty, if none goes
	path string // empty, if none comes
	file File
}

func newTree() *tree {
	return &tree{files: map[string]File{}, under: map[string]int{}}
}

func (t *tree) clone() *tree {
	return &tree{files: maps.Clone(t.files), under: maps.Clone(t.under), used: t.used}
}

func (t *tree) apply(c change) {
	if c.gone != "" {
		t.take(c.gone)
	}
	if c.path != "" {
		t.take(c.path)
		t.put(c.path, c.file)
	}
}

func (t *tree) put(path string, file File) {
	t.files[path] = file
	t.used += len(file.Data)
	for _, dir := range names.Parents(path) {
		t.under[dir]++
	}
}

// take takes away what stands at path, if something does.
func (t *tree) take(path string) {
	file, stands := t.files[path]
	if !stands {
		return
	}
	delete(t.files, path)
	t.used -= len(file.Data)
	for _, dir := range names.Parents(path) {
		t.under[dir]--
		if t.under[dir] == 0 {
			delete(t.under, dir)
		}
	}
}

// mayStand tells whether a file may stand at path, but for the one at without
// (empty, if none is left out).
func (t *tree) mayStand(path, without string) bool {
	for _, dir := range names.Parents(path) {
		if _, stands := t.files[dir]; stands && dir != without {
			return false
		}
	}
	under := t.under[path]
	if names.Under(path, without) {
		under--
	}
	return under == 0
}

// paths is where files stand, rising: all, or those Under the path dir, if it
// is not empty.
func (t *tree) paths(dir string) []string {
	var paths []string
	for _, path := range slices.Sorted(maps.Keys(t.files)) {
		// Both are paths: so this is names.Under, but for asking that again.
		if dir == "" || strings.HasPrefix(path, dir+"/") {
			paths = append(paths, path)
		}
	}
	return paths
}
