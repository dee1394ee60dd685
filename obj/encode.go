package obj

import (
	"marline/api"
	"marline/sha"
	"marline/wire"
)

// Encode is the bytes of o.
func Encode(o Obj) ([]byte, api.Errno) {
	if !May(o) {
		return nil, api.ErrRange
	}
	b := []byte{byte(o.Kind)}
	switch o.Kind {
	case Blob:
		b = append(b, o.Data...)
	case Tree:
		b = putItems(b, o.Items)
	case Commit:
		b = putCommit(b, o)
	}
	return b, api.OK
}

func putItems(b []byte, items []Item) []byte {
	b = putNumber(b, len(items))
	for _, item := range items {
		b = append(b, byte(item.Mode))
		b = putText(b, item.Name)
		b = putHash(b, item.ID)
	}
	return b
}

func putCommit(b []byte, o Obj) []byte {
	b = putHash(b, o.Tree)
	b = append(b, byte(len(o.Parents)))
	for _, id := range o.Parents {
		b = putHash(b, id)
	}
	b = putNumber(b, o.Stamp)
	b = putNumber(b, o.Author)
	return putText(b, o.Msg)
}

// putNumber and putHash are for what an object that may be has: there is
// none of it that can't be put.
func putNumber(b []byte, n int) []byte {
	number, _ := wire.Put(n)
	return append(b, number...)
}

func putHash(b []byte, id string) []byte {
	sum, _ := sha.Unhex(id)
	return append(b, sum...)
}

func putText(b []byte, s string) []byte {
	return append(putNumber(b, len(s)), s...)
}
