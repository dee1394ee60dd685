package store

import (
	"strings"

	"marline/api"
	"marline/sha"
)

// List is the hashes at whose places something lies, rising.
func (s *Store) List() ([]string, api.Errno) {
	paths, errno := s.fs.List(objects)
	if errno != api.OK {
		return nil, errno
	}
	var ids []string
	for _, path := range paths {
		// A path of more names is left out, too: no hash has a `/`.
		if id := strings.TrimPrefix(path, place("")); sha.Valid(id) {
			ids = append(ids, id)
		}
	}
	return ids, api.OK
}

// Drop takes away what lies at the place of id.
func (s *Store) Drop(id string) api.Errno {
	if !sha.Valid(id) {
		return api.ErrName
	}
	return s.fs.Remove(place(id))
}

// Clean takes away what a Put that didn't come to its end has left.
func (s *Store) Clean() api.Errno {
	errno := s.fs.Remove(scratch)
	if errno == api.ErrNone {
		return api.OK
	}
	return errno
}
