package reach

import (
	"cmp"
	"slices"

	"marline/api"
	"marline/dag"
	"marline/obj"
)

// Graph is the graph of all commits that are reached from ids by parents.
func Graph(src Source, ids []string, most int) (*dag.Graph, api.Errno) {
	h := &history{src: src}
	if _, errno := walk(ids, most, h.parents); errno != api.OK {
		return nil, errno
	}
	if errno := h.fault(); errno != api.OK {
		return nil, errno
	}
	return h.graph()
}

// history is what a source told of commits: those that are some, and how many
// it did not tell, or are none.
type history struct {
	src            Source
	commits        []commit
	untold, strays int
}

type commit struct {
	id      string
	parents []string
	stamp   int
}

// parents puts the commit id into the history, and answers its parents.
func (h *history) parents(id string) []string {
	data, told := ask(h.src, id)
	if !told {
		h.untold++
		return nil
	}
	o, errno := obj.Decode(data)
	if errno != api.OK || o.Kind != obj.Commit {
		h.strays++
		return nil
	}
	h.commits = append(h.commits, commit{id: id, parents: o.Parents, stamp: o.Stamp})
	return o.Parents
}

// fault is what keeps the history from being a graph; of several the one that
// stands first in the promise, for any of them may be told.
func (h *history) fault() api.Errno {
	switch {
	case h.untold > 0:
		return api.ErrNone
	case h.strays > 0:
		return api.ErrForm
	case !h.rises():
		return api.ErrRange
	}
	return api.OK
}

// rises tells whether each commit's stamp is above those of its parents. (So
// none comes from itself, which a source may tell that doesn't go by hashes.)
func (h *history) rises() bool {
	stamps := map[string]int{}
	for _, c := range h.commits {
		stamps[c.id] = c.stamp
	}
	for _, c := range h.commits {
		for _, parent := range c.parents {
			if c.stamp <= stamps[parent] {
				return false
			}
		}
	}
	return true
}

// graph adds the commits by rising stamps, so that parents are there ahead of
// those that come from them.
func (h *history) graph() (*dag.Graph, api.Errno) {
	slices.SortFunc(h.commits, func(a, b commit) int { return cmp.Compare(a.stamp, b.stamp) })
	g := dag.New()
	for _, c := range h.commits {
		if errno := g.Add(c.id, c.parents, c.stamp); errno != api.OK {
			return nil, errno
		}
	}
	return g, api.OK
}
