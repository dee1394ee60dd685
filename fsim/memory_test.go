package fsim_test

import (
	"slices"
	"testing"

	"marline/api"
	"marline/fsim"
)

// spoil writes into a list and into its spare room.
func spoil(b []byte) {
	whole := b[:cap(b)]
	for i := range whole {
		whole[i] = '?'
	}
}

func spoilTexts(l []string) {
	whole := l[:cap(l)]
	for i := range whole {
		whole[i] = "?"
	}
}

func spoilEvents(l []fsim.Event) {
	for i := range l {
		spoil(l[i].Data)
	}
	whole := l[:cap(l)]
	for i := range whole {
		whole[i] = fsim.Event{At: 1 << 20, Kind: 99, Path: "?"}
	}
}

// What is handed in has room behind it that must be neither written nor read.
func TestDataHandedInStay(t *testing.T) { // P5.6
	for name, call := range map[string]func(f *fsim.FS, data []byte) api.Errno{
		"Create":    func(f *fsim.FS, data []byte) api.Errno { return f.Create("n", 1, data) },
		"Write":     func(f *fsim.FS, data []byte) api.Errno { return f.Write("a", 1, data) },
		"UserWrite": func(f *fsim.FS, data []byte) api.Errno { return f.UserWrite("a", 1, data) },
	} {
		f := newFS(t, 100)
		f.Create("a", 1, []byte("old"))
		room := []byte("new data behind")
		if errno := call(f, room[:3]); errno != api.OK || string(room) != "new data behind" {
			t.Errorf("%s: %d, what was handed in is changed to %q", name, errno, room)
		}
		was := told(f)
		spoil(room)
		if told(f) != was {
			t.Errorf("%s: what was handed in is kept: %s, was %s", name, told(f), was)
		}
		f.Crash(9, 9)
		f.Reboot()
		f.Crash(0, 2)
		if string(room) != "???????????????" {
			t.Errorf("%s: what was handed in is changed to %q", name, room)
		}
	}
}

func TestPlanHandedInStays(t *testing.T) { // P5.6
	data := []byte("data behind")
	room := []fsim.Event{{At: 3, Kind: fsim.Wrote, Path: "c", Mode: 1, Data: data[:4]}, {At: 1, Kind: fsim.Wrote, Path: "a", Mode: 1, Data: data[:4]}, {At: 0, Kind: fsim.Broken}, {At: 2, Kind: fsim.Broken}, {At: 1, Kind: fsim.Broken}}
	f := newFS(t, 10)
	f.Plan(room[:4])
	if room[0].At != 3 || room[1].At != 1 || room[2].At != 0 || room[3].At != 2 || room[4].At != 1 || string(data) != "data behind" {
		t.Errorf("what was handed in is changed to %v", room)
	}
	spoilEvents(room)
	takeSteps(t, f, []step{{read("a"), `1"data"@10`}, {syncCall(), "11"}, {read("c"), `1"data"@20`}})
	if f.User()[0].Path != "a" || f.User()[1].Path != "c" || string(f.User()[1].Data) != "data" || room[0].Path != "?" || string(data[:4]) != "????" {
		t.Errorf("%v", f.User())
	}
}

func TestAnswersAreNewMemory(t *testing.T) { // P5.6
	f := newFS(t, 1000)
	for _, path := range []string{"a", "b/c", "b/d", "e", "f"} {
		f.Create(path, api.Plain, []byte("data of "+path))
		f.UserWrite("u/"+path, api.Exec, []byte("data of a user"))
	}
	was := told(f)
	c := f.Copy()
	for range 2 {
		file, _ := f.Read("b/c")
		peeked, _ := f.Peek("b/c")
		l, _ := f.List("b")
		m, _ := f.List("")
		paths, users, otherUsers := f.Paths(), f.User(), f.User()
		spoil(file.Data)
		if string(peeked.Data) != "data of b/c" {
			t.Error("an answer of Read shows in one of Peek")
		}
		spoil(peeked.Data)
		spoilTexts(l)
		if !slices.Equal(m, paths) {
			t.Errorf("an answer of List shows in another one: %q, %q", m, paths)
		}
		spoilTexts(m)
		spoilTexts(paths)
		spoilEvents(users)
		if len(otherUsers) != 5 || string(otherUsers[4].Data) != "data of a user" || otherUsers[4].Path != "u/f" {
			t.Errorf("an answer of User shows in another one: %v", otherUsers)
		}
		spoilEvents(otherUsers)
		if told(c) != was {
			t.Errorf("what is written into an answer shows in a copy: %s, was %s", told(c), was)
		}
		f.Crash(0, 0)
		f.Reboot()
		if filesOf(f) != filesOf(c) || len(f.User()) != 5 || string(f.User()[0].Data) != "data of a user" {
			t.Errorf("what is written into an answer shows: %s, was %s", told(f), was)
		}
	}
}

// The lists of one answer share no memory: what is appended to one of them
// shows in no other.
func TestListsOfOneAnswerAreApart(t *testing.T) { // P5.6
	f := newFS(t, 10)
	for range 5 {
		f.UserWrite("a", api.Plain, []byte("data"))
	}
	l := f.User()
	for i := range l {
		_ = append(l[i].Data, "behind the data"...)
		spoil(l[i].Data)
		for _, e := range l[i+1:] {
			if string(e.Data) != "data" {
				t.Errorf("event %d shows in a later one: %q", i, e.Data)
			}
		}
	}
}

// What is torn has no more behind it, and what it is cut from stays whole in
// a copy.
func TestTornDataAreApart(t *testing.T) { // P5.4, P5.6
	f := newFS(t, 100)
	f.Create("a", api.Plain, []byte("whole data"))
	c := f.Copy()
	f.Crash(0, 5)
	file, _ := f.Peek("a")
	_ = append(file.Data, '?', '?')
	spoil(file.Data)
	wantFiles(t, f, ` a:1"whole"@1`)
	wantFiles(t, c, ` a:1"whole data"@1`)
	c.Crash(1, 0)
	wantFiles(t, c, ` a:1"whole data"@1`)
}
