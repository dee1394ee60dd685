package table

import (
	"slices"

	"marline/api"
	"marline/names"
	"marline/obj"
	"marline/reach"
)

// Flatten is the rows of all files of a tree, rising.
func Flatten(src reach.Source, tree string) ([]api.Row, api.Errno) {
	w := walk{src: src, spots: []*spot{{id: tree}}}
	for at := 0; at < len(w.spots); at++ {
		items, errno := w.look(w.spots[at].id)
		if errno != api.OK {
			return nil, errno
		}
		if at >= api.MaxWalk {
			return nil, api.ErrLimit
		}
		if errno := w.gather(w.spots[at], items); errno != api.OK {
			return nil, errno
		}
	}
	slices.SortFunc(w.rows, byPath)
	return w.rows, api.OK
}

// walk has the trees that are gone into, in the order in which they were met,
// and the rows of those that were gone into so far.
type walk struct {
	src   reach.Source
	spots []*spot
	rows  []api.Row
}

// spot is where a tree is met: as what in which one (in none the first). One
// tree may be met at many spots, and each counts as a tree.
type spot struct {
	above *spot
	name  string
	id    string
}

// look is what stands in the tree of that hash.
func (w *walk) look(id string) ([]obj.Item, api.Errno) {
	b, told := w.ask(id)
	if !told {
		return nil, api.ErrNone
	}
	o, errno := obj.Decode(b)
	if errno != api.OK || o.Kind != obj.Tree {
		return nil, api.ErrForm
	}
	return o.Items, api.OK
}

// ask is what the source tells of id. A source that is none, or that panics,
// has told nothing: no call of this package panics, whatever it is given.
func (w *walk) ask(id string) (b []byte, told bool) {
	defer func() {
		if recover() != nil {
			b, told = nil, false
		}
	}()
	return w.src(id)
}

// gather takes the files among the items of the tree at a spot as rows, and the
// directories as trees to be gone into.
func (w *walk) gather(at *spot, items []obj.Item) api.Errno {
	for _, item := range items {
		if item.Mode == api.Dir {
			w.meet(&spot{above: at, name: item.Name, id: item.ID})
			continue
		}
		path, errno := at.path(item.Name)
		if errno != api.OK {
			return errno
		}
		w.rows = append(w.rows, api.Row{Path: path, Entry: api.Entry{Mode: item.Mode, ID: item.ID}})
		if len(w.rows) > api.MaxFiles {
			return api.ErrLimit
		}
	}
	return api.OK
}

// meet puts a tree behind the others. One more than may be gone into is enough
// to tell that they are too many.
func (w *walk) meet(s *spot) {
	if len(w.spots) <= api.MaxWalk {
		w.spots = append(w.spots, s)
	}
}

// path is the path of what has that name in the tree at s.
func (s *spot) path(name string) (string, api.Errno) {
	l := []string{name}
	for ; s.above != nil; s = s.above {
		l = append(l, s.name)
	}
	slices.Reverse(l)
	return names.Join(l)
}
