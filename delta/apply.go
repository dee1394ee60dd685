package delta

import (
	"marline/api"
	"marline/wire"
)

// Apply is the target that d tells by pieces of base.
func Apply(base, d []byte) ([]byte, api.Errno) {
	from, to, at, errno := getTwo(d, 0)
	switch {
	case errno != api.OK:
		return nil, errno
	case from != len(base):
		return nil, api.ErrSum
	case to > api.MaxObj:
		return nil, api.ErrLong
	}
	target := make([]byte, 0, to)
	for at < len(d) {
		piece, end, errno := getStep(base, d, at)
		if errno != api.OK {
			return nil, errno
		}
		if len(piece) > to-len(target) {
			return nil, api.ErrLong
		}
		target = append(target, piece...)
		at = end
	}
	if len(target) < to {
		return nil, api.ErrShort
	}
	return target, api.OK
}

// getStep is the bytes that the step at a place of d tells, and where it ends.
// They lie in base or in d.
func getStep(base, d []byte, at int) ([]byte, int, api.Errno) {
	switch d[at] {
	case copyStep:
		return getCopy(base, d, at+1)
	case insertStep:
		return getInsert(d, at+1)
	}
	return nil, 0, api.ErrForm
}

func getCopy(base, d []byte, at int) ([]byte, int, api.Errno) {
	place, size, at, errno := getTwo(d, at)
	switch {
	case errno != api.OK:
		return nil, 0, errno
	case size == 0:
		return nil, 0, api.ErrForm
	case place+size > len(base):
		return nil, 0, api.ErrRange
	}
	return base[place : place+size], at, api.OK
}

func getInsert(d []byte, at int) ([]byte, int, api.Errno) {
	size, at, errno := wire.Get(d, at)
	switch {
	case errno != api.OK:
		return nil, 0, errno
	case size == 0:
		return nil, 0, api.ErrForm
	case size > len(d)-at:
		return nil, 0, api.ErrShort
	}
	return d[at : at+size], at + size, api.OK
}
