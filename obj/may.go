package obj

import (
	"marline/api"
	"marline/names"
	"marline/sha"
)

const (
	maxParents = 2
	maxStamp   = 1 << 40
	maxAuthor  = 255
	leastChar  = 32 // of a message
	lastChar   = 126
)

// May tells whether o may be.
func May(o Obj) bool {
	switch o.Kind {
	case Blob:
		return mayBlob(o)
	case Tree:
		return mayTree(o)
	case Commit:
		return mayCommit(o)
	}
	return false
}

// mayBlob and mayTree hold what is beside their kind's own field against an
// object that has nothing else.
func mayBlob(o Obj) bool {
	rest := o
	rest.Data = nil
	return len(o.Data) <= api.MaxObj && Same(rest, Obj{Kind: Blob})
}

func mayTree(o Obj) bool {
	rest := o
	rest.Items = nil
	return mayItems(o.Items) && Same(rest, Obj{Kind: Tree})
}

func mayCommit(o Obj) bool {
	return len(o.Data) == 0 && len(o.Items) == 0 &&
		sha.Valid(o.Tree) &&
		mayParents(o.Parents) &&
		o.Stamp >= 0 && o.Stamp <= maxStamp &&
		o.Author >= 0 && o.Author <= maxAuthor &&
		mayMessage(o.Msg)
}

func mayItems(items []Item) bool {
	if len(items) > api.MaxFiles {
		return false
	}
	for i, item := range items {
		if item.Mode < api.Plain || item.Mode > api.Dir || !names.Name(item.Name) || !sha.Valid(item.ID) {
			return false
		}
		if i > 0 && items[i-1].Name >= item.Name {
			return false
		}
	}
	return true
}

func mayParents(ids []string) bool {
	if len(ids) > maxParents {
		return false
	}
	for i, id := range ids {
		if !sha.Valid(id) || i > 0 && ids[i-1] >= id {
			return false
		}
	}
	return true
}

func mayMessage(msg string) bool {
	if len(msg) > api.MaxMsg {
		return false
	}
	for i := range len(msg) {
		if msg[i] < leastChar || msg[i] > lastChar {
			return false
		}
	}
	return true
}
