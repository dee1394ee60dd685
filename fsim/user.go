package fsim

import (
	"bytes"
	"math"

	"marline/api"
)

// UserWrite is a user's Write: no call, whatever the room, durable at once.
func (f *FS) UserWrite(path string, mode int, data []byte) api.Errno {
	if f.down {
		return api.ErrDown
	}
	if errno := f.write(path, mode, data, math.MaxInt, false); errno != api.OK {
		return errno
	}
	f.note(Event{Kind: Wrote, Mode: mode, Path: path, Data: bytes.Clone(data)})
	return api.OK
}

// UserRemove is a user's Remove: no call, durable at once.
func (f *FS) UserRemove(path string) api.Errno {
	if f.down {
		return api.ErrDown
	}
	if errno := f.remove(path); errno != api.OK {
		return errno
	}
	f.note(Event{Kind: Removed, Path: path})
	return api.OK
}

// note keeps what a user did; that and all ahead of it is durable.
func (f *FS) note(e Event) {
	e.At = f.Calls()
	f.users = append(f.users, e)
	f.settle()
}
