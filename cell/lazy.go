package cell

import (
	"bytes"
	"sync"
	"sync/atomic"

	"marline/sha"
)

// Lazy is bytes, and their hash from when it is first asked.
type Lazy struct {
	kept []byte

	once  sync.Once
	id    string
	times atomic.Int64
}

// NewLazy is a Lazy of b's bytes, that nobody asked for their hash yet.
func NewLazy(b []byte) *Lazy {
	return &Lazy{kept: bytes.Clone(b)}
}

// ID is the hash of the bytes.
func (l *Lazy) ID() string {
	l.once.Do(func() {
		l.id = sha.ID(l.kept)
		l.times.Add(1)
	})
	return l.id
}

// Bytes is a copy of the bytes.
func (l *Lazy) Bytes() []byte {
	return bytes.Clone(l.kept)
}

// Times is how often the hash was worked out.
func (l *Lazy) Times() int {
	return int(l.times.Load())
}
