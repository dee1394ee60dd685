package refs

import (
	"strings"

	"marline/api"
	"marline/fsim"
	"marline/names"
)

// List is the names at whose places something lies, rising.
func List(f *fsim.FS) ([]string, api.Errno) {
	return namesIn(f, refsDir)
}

// Unlock takes away all locks, as one does behind a fall; it tells how many
// there were.
func Unlock(f *fsim.FS) (int, api.Errno) {
	locked, errno := namesIn(f, locksDir)
	if errno != api.OK {
		return 0, errno
	}
	for _, name := range locked {
		if errno := f.Remove(lockOf(name)); errno != api.OK {
			return 0, errno
		}
	}
	return len(locked), api.OK
}

// namesIn is the last names of the files that stand just in dir, rising.
func namesIn(f *fsim.FS, dir string) ([]string, api.Errno) {
	paths, errno := f.List(dir)
	if errno != api.OK {
		return nil, errno
	}
	var l []string
	for _, path := range paths {
		// A path of more names is left out: no name has a `/`.
		if name := strings.TrimPrefix(path, dir+"/"); names.Name(name) {
			l = append(l, name)
		}
	}
	return l, api.OK
}
