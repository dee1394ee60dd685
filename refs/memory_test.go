package refs_test

import (
	"slices"
	"testing"

	"marline/api"
	"marline/refs"
)

// spoil writes into a list and into its spare room.
func spoil[T any](l []T, with T) {
	whole := l[:cap(l)]
	for i := range whole {
		whole[i] = with
	}
}

func TestAnswersAreNewMemory(t *testing.T) { // P8.4
	f := newFS(t, 1000)
	for _, name := range []string{"c", "a", "b"} {
		wantSet(t, f, name, "", idOf(name), api.OK)
	}
	files := filesOf(f)
	for range 3 {
		l, _ := refs.List(f)
		l2, _ := refs.List(f)
		spoil(l, "?")
		if !slices.Equal(l2, []string{"a", "b", "c"}) {
			t.Errorf("an answer of List shows in another one: %q", l2)
		}
		_ = append(l2, "behind")
		spoil(l2, "?")
		wantList(t, f, "a", "b", "c")
		wantFiles(t, f, files)
	}
}

// Texts are handed in and out as they are: what the file system has later
// shows in no hash that was answered before.
func TestAnswersStay(t *testing.T) { // P8.4
	f := newFS(t, 1000)
	name, old, next := "head", idOf("a"), idOf("b")
	wantSet(t, f, name, "", old, api.OK)
	first, _ := refs.Get(f, name)
	wantSet(t, f, name, old, next, api.OK)
	second, _ := refs.Get(f, name)
	if errno := refs.Delete(f, name, next); errno != api.OK {
		t.Errorf("Delete: %d", errno)
	}
	if first != idOf("a") || second != idOf("b") || old != first || next != second || name != "head" {
		t.Errorf("answers %s, %s; handed in %s, %s, %s", first, second, name, old, next)
	}
}

// Nothing is kept beside f: two file systems have refs of their own, and what
// stands there now counts.
func TestNothingIsKept(t *testing.T) { // P8.1, P8.4
	f, g := newFS(t, 1000), newFS(t, 1000)
	wantSet(t, f, "head", "", idOf("a"), api.OK)
	wantGet(t, g, "head", "", api.ErrNone)
	wantSet(t, g, "head", "", idOf("b"), api.OK)
	wantGet(t, f, "head", idOf("a"), api.OK)
	c := f.Copy()
	f.UserWrite("s/r/head", api.Plain, []byte(idOf("c")+"\n"))
	wantGet(t, f, "head", idOf("c"), api.OK)
	f.UserRemove("s/r/head")
	wantGet(t, f, "head", "", api.ErrNone)
	wantGet(t, c, "head", idOf("a"), api.OK)
	f.UserWrite("s/l/head", api.Plain, nil)
	wantSet(t, f, "head", "", idOf("a"), api.ErrLock)
	wantSet(t, c, "head", idOf("a"), idOf("b"), api.OK)
	f.UserRemove("s/l/head")
	wantSet(t, f, "head", "", idOf("a"), api.OK)
}
