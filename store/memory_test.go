package store_test

import (
	"slices"
	"testing"

	"marline/api"
	"marline/obj"
	"marline/sha"
)

// spoil writes into a list and into its spare room.
func spoil[T any](l []T, with T) {
	whole := l[:cap(l)]
	for i := range whole {
		whole[i] = with
	}
}

// What is handed in has room behind it that must be neither written nor read.
func TestBytesHandedInStay(t *testing.T) { // P7.5
	f, s := newStore(t, 1000)
	room := []byte("some words behind")
	for range 2 {
		id, errno := s.Put(room[:4])
		if id != sha.ID([]byte("some")) || errno != api.OK || string(room) != "some words behind" {
			t.Errorf("Put = %s, %d; what is handed in is changed to %q", id, errno, room)
		}
	}
	want := told(f)
	spoil(room, '?')
	if told(f) != want {
		t.Errorf("what is handed in is kept: %s, was %s", told(f), want)
	}
	wantGet(t, s, sha.ID([]byte("some")), []byte("some"), api.OK)
}

func TestObjectsHandedInStay(t *testing.T) { // P7.5
	f, s := newStore(t, 1000)
	for _, o := range []obj.Obj{{Kind: obj.Blob, Data: []byte("hi")}, aTree(), aCommit()} {
		with := o
		with.Data = append(slices.Clone(o.Data), "behind"...)[:len(o.Data)]
		with.Items = append(slices.Clone(o.Items), obj.Item{Name: "behind"})[:len(o.Items)]
		with.Parents = append(slices.Clone(o.Parents), "behind")[:len(o.Parents)]
		id, errno := s.PutObj(with)
		behind := string(with.Data[:len(o.Data)+6][len(o.Data):]) + with.Items[:len(o.Items)+1][len(o.Items)].Name + with.Parents[:len(o.Parents)+1][len(o.Parents)]
		if errno != api.OK || !obj.Same(with, o) || behind != "behindbehindbehind" {
			t.Errorf("PutObj: %d; what is handed in is changed: %v, was %v, behind it %s", errno, with, o, behind)
		}
		want := told(f)
		spoil(with.Data, '?')
		spoil(with.Items, obj.Item{ID: "?"})
		spoil(with.Parents, "?")
		if got, errno := s.GetObj(id); told(f) == want || errno != api.OK || !obj.Same(got, o) {
			t.Errorf("what is handed in is kept: %v, was %v", got, o)
		}
	}
}

func TestAnswersAreNewMemory(t *testing.T) { // P7.5
	f, s := newStore(t, 1000)
	b := []byte("\x01some words")
	id, _ := s.Put(b)
	tree, _ := s.PutObj(aTree())
	commit, _ := s.PutObj(aCommit())
	files := filesOf(f)
	for range 2 {
		got, _ := s.Get(id)
		got2, _ := s.Get(id)
		spoil(got, '?')
		if string(got2) != "\x01some words" || string(b) != "\x01some words" {
			t.Errorf("an answer of Get shows in another one: %q", got2)
		}
		_ = append(got2, "behind"...)
		spoil(got2, '?')
		l, _ := s.List()
		l2, _ := s.List()
		spoil(l, "?")
		if len(l2) != 3 || slices.Contains(l2, "?") {
			t.Errorf("an answer of List shows in another one: %q", l2)
		}
		for _, id := range []string{id, tree, commit} {
			want, _ := s.GetObj(id)
			o, _ := s.GetObj(id)
			spoil(o.Data, '?')
			spoil(o.Items, obj.Item{Name: "?"})
			spoil(o.Parents, "?")
			if again, errno := s.GetObj(id); errno != api.OK || !obj.Same(again, want) {
				t.Errorf("an answer of GetObj shows in another one: %v, was %v", again, want)
			}
		}
		wantFiles(t, f, files)
	}
	f.Crash(9, 0)
	f.Reboot()
	wantGet(t, s, id, b, api.OK)
}
