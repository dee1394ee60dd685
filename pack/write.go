package pack

import (
	"marline/api"
	"marline/delta"
	"marline/sha"
	"marline/wire"
)

// Write is the pack of objs, in their order.
func Write(objs [][]byte) ([]byte, api.Errno) {
	if errno := mayPack(objs); errno != api.OK {
		return nil, errno
	}
	b := putNumber([]byte(mark), len(objs))
	depths := make([]int, len(objs))
	for i := range objs {
		b, depths[i] = putObject(b, objs[:i+1], depths[:i])
	}
	return append(b, sha.Sum(b)...), api.OK
}

func mayPack(objs [][]byte) api.Errno {
	if len(objs) > api.MaxPack {
		return api.ErrLimit
	}
	for _, o := range objs {
		if len(o) > api.MaxObj {
			return api.ErrLong
		}
	}
	for _, o := range objs {
		if !mayBe(o) {
			return api.ErrForm
		}
	}
	return api.OK
}

// putObject puts the last one of objs behind b, and answers its depth too;
// depths are those of the ones ahead of it.
func putObject(b []byte, objs [][]byte, depths []int) ([]byte, int) {
	last := len(objs) - 1
	o := objs[last]
	if by := nearest(objs, depths); by >= 0 {
		if d := delta.Make(objs[by], o); len(d) < len(o) {
			b = putNumber(append(b, ahead), last-by)
			return putBytes(b, d), depths[by] + 1
		}
	}
	return putBytes(append(b, whole), o), 0
}

// nearest is the place of the one by which the last one of objs may be told;
// -1, if there is none.
func nearest(objs [][]byte, depths []int) int {
	last := len(objs) - 1
	for i := last - 1; i >= 0; i-- {
		if objs[i][0] == objs[last][0] && depths[i] < api.MaxChain {
			return i
		}
	}
	return -1
}

func putBytes(b, piece []byte) []byte {
	return append(putNumber(b, len(piece)), piece...)
}

// putNumber is for lengths and counts alone: of these Put tells no error.
func putNumber(b []byte, n int) []byte {
	number, _ := wire.Put(n)
	return append(b, number...)
}
