package pack_test

import (
	"bytes"
	"math/rand"
	"slices"
	"sync"
	"testing"

	"marline/api"
	"marline/pack"
)

func TestParseOfWriteIsTheObjects(t *testing.T) { // P10.5
	r := rand.New(rand.NewSource(6))
	lists := [][][]byte{nil, numbered(512), slices.Repeat([][]byte{blob(string(unlike(19999, 1)))}, 100)}
	for range 1000 {
		lists = append(lists, someObjs(r, r.Intn(30)))
	}
	for _, objs := range lists {
		b, errno := pack.Write(objs)
		if errno != api.OK {
			t.Fatalf("Write of %d objects: %d", len(objs), errno)
		}
		l, n, errno := pack.Parse(b, nil)
		if errno != api.OK || n != len(objs) || !sameObjs(l, objs) {
			t.Fatalf("%d objects: %d, %d, %d", len(objs), len(l), n, errno)
		}
		rows, errno := pack.Index(b, nil)
		if errno != api.OK || len(rows) != len(objs) {
			t.Fatalf("%d objects: %d rows, %d", len(objs), len(rows), errno)
		}
		for i, r := range rows {
			if r.ID != idOf(objs[i]) || r.Depth > 8 {
				t.Fatalf("object %d: %v", i, r)
			}
		}
	}
}

func refused(t *testing.T, b []byte, base baseFunc, what string, at int) {
	t.Helper()
	l, n, errno := pack.Parse(b, base)
	rows, rowsErrno := pack.Index(b, base)
	want := api.ErrSum
	if len(b) < 36 {
		want = api.ErrShort
	}
	if errno != want || rowsErrno != want || n != 0 || len(l) > 0 || len(rows) > 0 {
		t.Fatalf("%s at %d: %d objects, %d, %d, %d", what, at, len(l), n, errno, rowsErrno)
	}
}

func TestWhatIsTurnedOrCutOffIsRefused(t *testing.T) { // P10.5
	r := rand.New(rand.NewSource(7))
	with, _, s := aPack(r)
	none, _ := pack.Write(nil)
	some, _ := pack.Write([][]byte{tree("a", "b"), far(), tree("a"), near(), commit("m")})
	for _, b := range [][]byte{none, some, with} {
		for at := range b {
			for bit := range 8 {
				x := bytes.Clone(b)
				x[at] ^= 1 << bit
				refused(t, x, s.base, "turned", at)
			}
			refused(t, b[:at], s.base, "cut off", at)
			refused(t, slices.Delete(bytes.Clone(b), at, at+1), s.base, "left out", at)
			refused(t, slices.Insert(bytes.Clone(b), at, 0), s.base, "put in", at)
		}
		refused(t, append(bytes.Clone(b), 0), s.base, "put behind", len(b))
	}
}

// Calls at once answer what each one alone does.
func TestCallsAtOnce(t *testing.T) { // P0.5
	objs := numbered(50)
	want, _ := writtenOf(objs)
	var all sync.WaitGroup
	for range 8 {
		all.Add(1)
		go func() {
			defer all.Done()
			for range 5 {
				b, _ := pack.Write(objs)
				l, _, errno := pack.Parse(want, nothing)
				if !bytes.Equal(b, want) || errno != api.OK || !sameObjs(l, objs) {
					t.Error("a call at once with others answers otherwise")
				}
			}
		}()
	}
	all.Wait()
}
