package cell

import (
	"testing"

	"marline/sha"
)

// Bytes that are changed beneath a Lazy show when its hash is worked out: of
// those at its first ID, and of those alone.
func TestHashIsWorkedOutAtTheFirstCall(t *testing.T) { // P3.1, P3.4
	l := NewLazy([]byte("abc"))
	l.Bytes()
	l.Times()
	if l.id != "" {
		t.Errorf("worked out ahead of the first call: %s", l.id)
	}
	l.kept[0] = 'x'
	want := sha.ID([]byte("xbc"))
	for i := range 5 {
		if id := l.ID(); id != want || l.Times() != 1 {
			t.Errorf("ID() for time %d = %s, want %s; Times() = %d", i+1, id, want, l.Times())
		}
		l.kept[0] = 'y'
		l.Bytes()
	}
}
