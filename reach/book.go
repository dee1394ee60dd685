package reach

import (
	"marline/api"
	"marline/obj"
	"marline/wire"
)

// book has what a source told, so that it is asked once of each hash.
type book struct {
	src   Source
	pages map[string]page
}

// page is what was told of a hash: whether it is an object, and what that names.
type page struct {
	isObject bool
	refs     []string
}

func newBook(src Source) *book { return &book{src: src, pages: map[string]page{}} }

// closure is all that is reached from ids: what is an object, and what is none.
func (b *book) closure(ids []string, most int) ([]string, []string, api.Errno) {
	all, errno := walk(ids, most, b.refs)
	if errno != api.OK {
		return nil, nil, errno
	}
	var told, lacking []string
	for _, id := range all {
		if b.pages[id].isObject {
			told = append(told, id)
		} else {
			lacking = append(lacking, id)
		}
	}
	return wire.Sort(told), wire.Sort(lacking), api.OK
}

// refs is what the object of id names; of none nothing.
func (b *book) refs(id string) []string {
	p, looked := b.pages[id]
	if !looked {
		p = look(b.src, id)
		b.pages[id] = p
	}
	return p.refs
}

func look(src Source, id string) page {
	data, told := ask(src, id)
	if !told {
		return page{}
	}
	o, errno := obj.Decode(data)
	if errno != api.OK {
		return page{}
	}
	return page{isObject: true, refs: obj.Refs(o)}
}

// ask is what src tells of id. A source that is none, or that panics, has told
// nothing: no call of this package panics, whatever it is given.
func ask(src Source, id string) (data []byte, told bool) {
	defer func() {
		if recover() != nil {
			data, told = nil, false
		}
	}()
	return src(id)
}
