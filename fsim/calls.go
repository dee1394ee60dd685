package fsim

import (
	"bytes"

	"marline/api"
	"marline/names"
)

// begin counts a call and lets its events happen. It answers the room that
// files may take in this call, and whether the call can be made at all.
func (f *FS) begin() (int, api.Errno) {
	number := int(f.calls.Add(1))
	room, errno := f.room, api.OK
	for len(f.plan) > 0 && f.plan[0].At == number {
		e := f.plan[0]
		f.plan = f.plan[1:]
		switch e.Kind {
		case Crashed:
			f.Crash(e.Keep, e.Torn)
		case NoRoom:
			room = -1 // not even for files without a byte
		case Broken:
			errno = api.ErrIO
		case Wrote:
			f.UserWrite(e.Path, e.Mode, e.Data)
		case Removed:
			f.UserRemove(e.Path)
		}
	}
	if f.down {
		errno = api.ErrDown
	}
	return room, errno
}

// Read is the file that stands at path.
func (f *FS) Read(path string) (File, api.Errno) {
	if _, errno := f.begin(); errno != api.OK {
		return File{}, errno
	}
	if !names.Path(path) {
		return File{}, api.ErrName
	}
	file, stands := f.Peek(path)
	if !stands {
		return File{}, api.ErrNone
	}
	return file, api.OK
}

// List is the paths of the files Under dir, or of all if it is empty, rising.
func (f *FS) List(dir string) ([]string, api.Errno) {
	if _, errno := f.begin(); errno != api.OK {
		return nil, errno
	}
	if dir != "" && !names.Path(dir) {
		return nil, api.ErrName
	}
	return f.here.paths(dir), api.OK
}

// Create lets a file stand where none stood.
func (f *FS) Create(path string, mode int, data []byte) api.Errno {
	room, errno := f.begin()
	if errno != api.OK {
		return errno
	}
	return f.write(path, mode, data, room, true)
}

// Write lets a file stand at path, in place of what stood there.
func (f *FS) Write(path string, mode int, data []byte) api.Errno {
	room, errno := f.begin()
	if errno != api.OK {
		return errno
	}
	return f.write(path, mode, data, room, false)
}

func (f *FS) write(path string, mode int, data []byte, room int, create bool) api.Errno {
	stood, stands := f.here.files[path]
	switch {
	case !names.Path(path):
		return api.ErrName
	case mode < api.Plain || mode > api.Link:
		return api.ErrRange
	case len(data) > api.MaxObj:
		return api.ErrLong
	case create && stands:
		return api.ErrExists
	case !f.here.mayStand(path, ""):
		return api.ErrDir
	case f.here.used-len(stood.Data)+len(data) > room:
		return api.ErrFull
	}
	f.do(change{path: path, file: File{Mode: mode, Data: bytes.Clone(data), Time: f.now + 1}})
	return api.OK
}

// Move lets the file at from stand at to, in place of what stood there.
func (f *FS) Move(from, to string) api.Errno {
	if _, errno := f.begin(); errno != api.OK {
		return errno
	}
	return f.move(from, to, false)
}

// MoveNew lets the file at from stand at to, where none stood.
func (f *FS) MoveNew(from, to string) api.Errno {
	if _, errno := f.begin(); errno != api.OK {
		return errno
	}
	return f.move(from, to, true)
}

func (f *FS) move(from, to string, create bool) api.Errno {
	file, stands := f.here.files[from]
	_, stood := f.here.files[to]
	switch {
	case !names.Path(from) || !names.Path(to):
		return api.ErrName
	case !stands:
		return api.ErrNone
	case create && stood:
		return api.ErrExists
	case to == from:
		return api.OK
	case !f.here.mayStand(to, from):
		return api.ErrDir
	}
	f.do(change{gone: from, path: to, file: file})
	return api.OK
}

// Remove takes away the file that stands at path.
func (f *FS) Remove(path string) api.Errno {
	if _, errno := f.begin(); errno != api.OK {
		return errno
	}
	return f.remove(path)
}

func (f *FS) remove(path string) api.Errno {
	if !names.Path(path) {
		return api.ErrName
	}
	if _, stands := f.here.files[path]; !stands {
		return api.ErrNone
	}
	f.do(change{gone: path})
	return api.OK
}

// Sync makes all that was done durable.
func (f *FS) Sync() api.Errno {
	if _, errno := f.begin(); errno != api.OK {
		return errno
	}
	f.settle()
	return api.OK
}

func (f *FS) do(c change) {
	f.now++
	f.here.apply(c)
	f.pending = append(f.pending, c)
}

func (f *FS) settle() {
	for _, c := range f.pending {
		f.durable.apply(c)
	}
	f.pending = nil
}
