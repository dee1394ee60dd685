package reach

import "marline/api"

// walk is ids and all that is reached from them by next, each once, and next
// is asked of each once; ErrLimit, if they are more than most.
func walk(ids []string, most int, next func(id string) []string) ([]string, api.Errno) {
	if most < 1 || most > api.MaxWalk {
		return nil, api.ErrRange
	}
	w := worklist{met: map[string]struct{}{}}
	w.add(ids)
	for at := 0; at < len(w.ids) && len(w.ids) <= most; at++ {
		w.add(next(w.ids[at]))
	}
	if len(w.ids) > most {
		return nil, api.ErrLimit
	}
	return w.ids, api.OK
}

// worklist has hashes in the order in which they were met.
type worklist struct {
	ids []string
	met map[string]struct{}
}

// add puts those of ids that were not met yet behind the others.
func (w *worklist) add(ids []string) {
	for _, id := range ids {
		if _, met := w.met[id]; !met {
			w.met[id] = struct{}{}
			w.ids = append(w.ids, id)
		}
	}
}
