package reach_test

import (
	"bytes"
	"fmt"
	"slices"
	"testing"

	"marline/api"
	"marline/reach"
)

// spoil writes into a list and into its spare room.
func spoil(l []string) {
	whole := l[:cap(l)]
	for i := range whole {
		whole[i] = "spoiled"
	}
}

// withRoom is l with room behind it, filled with what is to stay there.
func withRoom(l []string, behind ...string) []string {
	room := append(slices.Clone(l), behind...)
	return room[:len(l)]
}

// calls are those that answer lists of what is reached from ids, made ones
// that take ids alone.
func calls(src reach.Source) map[string]func(ids []string) ([]string, api.Errno) {
	return map[string]func(ids []string) ([]string, api.Errno){
		"Closure's first": func(ids []string) ([]string, api.Errno) {
			told, _, errno := reach.Closure(src, ids, 99)
			return told, errno
		},
		"Closure's second": func(ids []string) ([]string, api.Errno) {
			_, lacking, errno := reach.Closure(src, ids, 99)
			return lacking, errno
		},
		"Diff of wants": func(ids []string) ([]string, api.Errno) { return reach.Diff(src, ids, nil, 99) },
		"Diff without haves": func(ids []string) ([]string, api.Errno) {
			wants, _, _ := reach.Closure(src, ids, 99)
			return reach.Diff(src, wants[len(wants)/2:], ids[len(ids)/2:], 99)
		},
		"Whole": func(ids []string) ([]string, api.Errno) {
			return []string{fmt.Sprint(reach.Whole(src, ids, 99))}, api.OK
		},
		"Graph": func(ids []string) ([]string, api.Errno) {
			g, errno := reach.Graph(src, ids, 99)
			if errno != api.OK {
				return nil, errno
			}
			return g.Order(ids)
		},
	}
}

func someIDs(s small) [][]string {
	return [][]string{nil, {s.one}, {s.three}, {s.two, s.one, s.two}, {s.three, s.one}, {s.torn}, {s.torn, s.gone, s.raw}, {s.x, s.y}}
}

func TestIDsHandedInStay(t *testing.T) { // P12.4
	s := newSmall()
	for name, call := range calls(s.source) {
		for _, ids := range someIDs(s) {
			want, wantErrno := call(ids)
			behind := []string{s.torn, "no such id", "", s.x}
			given := withRoom(ids, behind...)
			got, errno := call(given)
			if errno != wantErrno || !slices.Equal(got, want) {
				t.Errorf("%s of %q: what is behind is read: %q, %d, want %q, %d", name, ids, got, errno, want, wantErrno)
			}
			if !slices.Equal(given[:len(ids)+len(behind)], append(slices.Clone(ids), behind...)) {
				t.Errorf("%s of %q: handed in is now %q", name, ids, given[:cap(given)])
			}
			spoil(given)
			if !slices.Equal(got, want) {
				t.Errorf("%s of %q: a write into what was handed in shows in %q", name, ids, got)
			}
		}
	}
}

func TestHavesHandedInStay(t *testing.T) { // P12.4
	s := newSmall()
	haves := withRoom([]string{s.two, s.one}, s.three, "behind")
	got, errno := reach.Diff(s.source, []string{s.three}, haves, 99)
	if errno != api.OK || !slices.Equal(got, []string{s.three}) || !slices.Equal(haves[:4], []string{s.two, s.one, s.three, "behind"}) {
		t.Errorf("Diff = %q, %d, haves are now %q", got, errno, haves[:4])
	}
}

// What a source tells is not changed and not kept: it may use the same memory
// for all that it tells.
func TestWhatIsToldStays(t *testing.T) { // P12.4
	s := newSmall()
	was := shelf{}
	for id, b := range s.shelf {
		was[id] = bytes.Clone(b)
		s.shelf[id] = append(b, "behind it"...)[:len(b)]
	}
	room := make([]byte, 0, 1000)
	reused := func(id string) ([]byte, bool) {
		b, ok := was.source(id)
		room = append(room[:0], b...)
		return room, ok
	}
	got := calls(s.source)
	fromRoom := calls(reused)
	for name, call := range calls(was.source) {
		for _, ids := range someIDs(s) {
			want, wantErrno := call(ids)
			one, errno := got[name](ids)
			other, otherErrno := fromRoom[name](ids)
			if errno != wantErrno || otherErrno != wantErrno || !slices.Equal(one, want) || !slices.Equal(other, want) {
				t.Errorf("%s of %q = %q, %d, or %q, %d, want %q, %d", name, ids, one, errno, other, otherErrno, want, wantErrno)
			}
		}
	}
	for id, b := range was {
		if got := s.shelf[id]; !bytes.Equal(got, b) || string(got[len(b):len(b)+9]) != "behind it" {
			t.Errorf("what was told of %s is now % x", id, got[:len(b)+9])
		}
	}
}

// A graph is not changed by what its source tells later, nor are answers.
func TestAnswersStay(t *testing.T) { // P12.4
	s := newSmall()
	g, errno := reach.Graph(s.source, []string{s.two}, 99)
	told, lacking, _ := reach.Closure(s.source, []string{s.torn}, 99)
	wantTold, wantLacking := slices.Clone(told), slices.Clone(lacking)
	for _, b := range s.shelf {
		clear(b)
	}
	clear(s.shelf)
	wantNodes(t, g, errno, node{s.one, nil, 1}, node{s.two, []string{s.one}, 2})
	if !slices.Equal(told, wantTold) || !slices.Equal(lacking, wantLacking) {
		t.Errorf("Closure is now %q, %q", told, lacking)
	}
}

func TestAnswersAreNewMemory(t *testing.T) { // P12.4, P0.4
	s := newSmall()
	for name, call := range calls(s.source) {
		for _, ids := range someIDs(s) {
			given := slices.Clone(ids)
			first, _ := call(given)
			second, _ := call(given)
			want := slices.Clone(second)
			spoil(first)
			if again, _ := call(given); !slices.Equal(given, ids) || !slices.Equal(second, want) || !slices.Equal(again, want) {
				t.Errorf("%s of %q: a write into an answer shows in %q, in %q or in %q", name, ids, given, second, again)
			}
		}
	}
	told, lacking, _ := reach.Closure(s.source, []string{s.torn, s.raw}, 99)
	wantTold, wantLacking := slices.Clone(told), slices.Clone(lacking)
	lacking = append(lacking, "more")
	spoil(lacking)
	if !slices.Equal(told, wantTold) {
		t.Errorf("a write into the second list shows in the first one, %q", told)
	}
	_, lacking, _ = reach.Closure(s.source, []string{s.torn, s.raw}, 99)
	told = append(told, "more", "more", "more")
	spoil(told)
	if !slices.Equal(lacking, wantLacking) {
		t.Errorf("a write into the first list shows in the second one, %q", lacking)
	}
	one, _ := reach.Graph(s.source, []string{s.two}, 99)
	other, _ := reach.Graph(s.source, []string{s.two}, 99)
	if errno := one.Add("more", []string{s.two}, 3); errno != api.OK || other.Has("more") {
		t.Errorf("a graph shows in another one, or Add = %d", errno)
	}
}
