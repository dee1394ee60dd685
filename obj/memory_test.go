package obj_test

import (
	"bytes"
	"slices"
	"testing"

	"marline/api"
	"marline/obj"
)

// spoil writes into a list and into its spare room.
func spoil[T any](l []T, with T) {
	whole := l[:cap(l)]
	for i := range whole {
		whole[i] = with
	}
}

// withRoom is l with room behind it, filled with something that is to stay.
func withRoom[T any](l []T, behind T) []T {
	room := slices.Concat(l, []T{behind, behind, behind, behind})
	return room[:len(l)]
}

func roomStays[T comparable](l []T, want []T, behind T) bool {
	whole := l[:cap(l)]
	for _, v := range whole[len(l) : len(l)+4] {
		if v != behind {
			return false
		}
	}
	return slices.Equal(l, want)
}

func TestObjectsHandedInStay(t *testing.T) { // P6.3
	behind := obj.Item{Name: "behind"}
	for _, o := range append(each(), aBlob(), aTree(), aCommit()) {
		with := o
		with.Data, with.Items, with.Parents = withRoom(o.Data, '!'), withRoom(o.Items, behind), withRoom(o.Parents, "behind")
		b, _ := obj.Encode(with)
		ids := obj.Refs(with)
		obj.May(with)
		obj.ID(with)
		obj.Same(with, o)
		obj.Same(o, with)
		if !roomStays(with.Data, o.Data, '!') || !roomStays(with.Items, o.Items, behind) || !roomStays(with.Parents, o.Parents, "behind") {
			t.Errorf("what is handed in is changed: %v, was %v", with, o)
		}
		wasBytes, wasIDs := bytes.Clone(b), slices.Clone(ids)
		spoil(with.Data, '?')
		spoil(with.Items, obj.Item{ID: "?"})
		spoil(with.Parents, "?")
		if !bytes.Equal(b, wasBytes) || !slices.Equal(ids, wasIDs) {
			t.Errorf("what is handed in is kept: %x, was %x; %q, was %q", b, wasBytes, ids, wasIDs)
		}
	}
}

func TestBytesHandedInStay(t *testing.T) { // P6.3
	for _, o := range []obj.Obj{aBlob(), aTree(), aCommit(), {Kind: obj.Blob}} {
		b := bytesOf(o)
		for n := range len(b) + 1 {
			with := withRoom(b[:n], '!')
			got, errno := obj.Decode(with)
			if !roomStays(with, b[:n], '!') {
				t.Errorf("what is handed in is changed to %x", with)
			}
			spoil(with, '?')
			if want, _ := obj.Decode(b[:n]); !obj.Same(got, want) || n == len(b) && errno != api.OK {
				t.Errorf("what is handed in is kept: %v, was %v", got, want)
			}
		}
	}
}

// What lies behind the bytes that are handed in is not read.
func TestWhatIsBehindIsNotRead(t *testing.T) { // P0.4
	for _, o := range []obj.Obj{aTree(), aCommit()} {
		b := bytesOf(o)
		for n := 1; n < len(b); n++ {
			if got, errno := obj.Decode(b[:n]); errno != api.ErrForm || !obj.Same(got, obj.Obj{}) {
				t.Errorf("%d bytes of %d: %d, %v", n, len(b), errno, got)
			}
		}
	}
}

func TestAnswersAreNewMemory(t *testing.T) { // P6.3
	for _, o := range []obj.Obj{aBlob(), aTree(), aCommit()} {
		whole := bytesOf(o)
		b, _ := obj.Encode(o)
		b2, _ := obj.Encode(o)
		spoil(b, '?')
		if b3, _ := obj.Encode(o); !bytes.Equal(b2, whole) || !bytes.Equal(b3, whole) {
			t.Errorf("an answer of Encode shows in another one: %x, %x", b2, b3)
		}
		got, _ := obj.Decode(whole)
		got2, _ := obj.Decode(whole)
		spoil(got.Data, '?')
		spoil(got.Items, obj.Item{Name: "?"})
		spoil(got.Parents, "?")
		if got3, _ := obj.Decode(whole); !obj.Same(got2, o) || !obj.Same(got3, o) || !bytes.Equal(whole, bytesOf(o)) {
			t.Errorf("an answer of Decode shows in another one: %v, %v", got2, got3)
		}
		want := obj.Refs(got2)
		ids, ids2 := obj.Refs(got2), obj.Refs(got2)
		spoil(ids, "?")
		if !slices.Equal(ids2, want) || !slices.Equal(obj.Refs(got2), want) || !obj.Same(got2, o) {
			t.Errorf("an answer of Refs shows elsewhere: %q, %v", ids2, got2)
		}
	}
}
