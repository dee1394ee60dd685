package scan

import "maps"

// Index is what the last Scan saw: it spares the next one to work out the
// hashes of files that are as they were.
type Index struct {
	files   map[string]noted
	written int
}

// noted is when a file was written that a Scan saw, and the hash of its Blob.
type noted struct {
	time int
	id   string
}

// NewIndex is an index of no files.
func NewIndex() *Index { return &Index{} }

// Len is how many paths it has.
func (x *Index) Len() int { return len(x.files) }

// Copy is an index of its own that has the same.
func (x *Index) Copy() *Index {
	return &Index{files: maps.Clone(x.files), written: x.written}
}

// hash is what it has of the file at path that was written at time, and
// whether that can be relied on: a file that was written just when the index
// was may have changed once more at that very time.
func (x *Index) hash(path string, time int) (string, bool) {
	file, has := x.files[path]
	if !has || file.time != time || time >= x.written {
		return "", false
	}
	return file.id, true
}
