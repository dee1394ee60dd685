package scan

import (
	"marline/api"
	"marline/wire"
)

// Change is a path, and what stands there in one table and in another one.
type Change struct {
	Path     string
	Old, New api.Entry
}

// Status is the paths at which old and new have unlike entries, rising.
func Status(old, new []api.Row) []Change {
	before, after := entries(old), entries(new)
	var changes []Change
	for _, path := range wire.Merge(paths(old), paths(new)) {
		if before[path] != after[path] {
			changes = append(changes, Change{Path: path, Old: before[path], New: after[path]})
		}
	}
	return changes
}

// entries is what stands at each path: the first, if a list has several.
func entries(rows []api.Row) map[string]api.Entry {
	at := map[string]api.Entry{}
	for _, row := range rows {
		if _, has := at[row.Path]; !has {
			at[row.Path] = row.Entry
		}
	}
	return at
}

func paths(rows []api.Row) []string {
	var l []string
	for _, row := range rows {
		l = append(l, row.Path)
	}
	return l
}
