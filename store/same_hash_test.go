package store

import (
	"testing"

	"marline/api"
	"marline/fsim"
	"marline/sha"
)

// No unlike bytes of one hash are to be had: so the bytes x are put as if
// their hash were that of the y that is there.
func TestPutBesideOtherBytesOfTheSameHash(t *testing.T) { // P7.1, P7.6
	f, _ := fsim.New(100)
	s := Open(f)
	id, _ := s.Put([]byte("y"))
	if got, errno := s.put(id, []byte("x")); got != "" || errno != api.ErrSum {
		t.Errorf("put = %q, %d", got, errno)
	}
	if f.Calls() != 4 || s.Reads() != 2 || f.Now() != 2 {
		t.Errorf("%d calls, %d reads, %d changes", f.Calls(), s.Reads(), f.Now())
	}
	if b, errno := s.Get(id); string(b) != "y" || errno != api.OK || id != sha.ID([]byte("y")) {
		t.Errorf("Get = %q, %d", b, errno)
	}
}
