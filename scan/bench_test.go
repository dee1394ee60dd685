package scan_test

import (
	"fmt"
	"slices"
	"strings"
	"testing"

	"marline/api"
	"marline/fsim"
	"marline/obj"
	"marline/scan"
	"marline/store"
)

// bench is a file system, a store over it, and an index.
type bench struct {
	t *testing.T
	f *fsim.FS
	s *store.Store
	x *scan.Index
}

func newBench(t *testing.T) bench { return newBenchOf(t, 1<<30) }

func newBenchOf(t *testing.T, room int) bench {
	t.Helper()
	f, errno := fsim.New(room)
	if errno != api.OK {
		t.Fatalf("New(%d): %d", room, errno)
	}
	return bench{t, f, store.Open(f), scan.NewIndex()}
}

// copied is a bench of its own that goes on as b would.
func (b bench) copied() bench {
	f := b.f.Copy()
	return bench{b.t, f, store.Open(f), b.x.Copy()}
}

// users writes files of users: a path, and its data behind a blank.
func (b bench) users(files ...string) {
	b.t.Helper()
	for _, file := range files {
		path, data, _ := strings.Cut(file, " ")
		if errno := b.f.UserWrite(path, api.Plain, []byte(data)); errno != api.OK {
			b.t.Fatalf("a user writes %s: %d", path, errno)
		}
	}
}

func (b bench) put(data ...string) {
	b.t.Helper()
	for _, s := range data {
		if _, errno := b.s.PutObj(blobOf(s)); errno != api.OK {
			b.t.Fatalf("PutObj: %d", errno)
		}
	}
}

// at lets e happen just ahead of the nth call from now on.
func (b bench) at(n int, e fsim.Event) {
	e.At = b.f.Calls() + n
	b.f.Plan([]fsim.Event{e})
}

func (b bench) want(ignore []string, wantWorked int, want ...api.Row) {
	b.t.Helper()
	rows, worked, errno := scan.Scan(b.f, b.s, b.x, ignore)
	if errno != api.OK || worked != wantWorked || !slices.Equal(rows, want) {
		b.t.Errorf("Scan(%q) = %s, %d, %d, want %s, %d", ignore, shown(rows), worked, errno, shown(want), wantWorked)
	}
}

func (b bench) wantErrno(ignore []string, want api.Errno) {
	b.t.Helper()
	rows, worked, errno := scan.Scan(b.f, b.s, b.x, ignore)
	if errno != want || worked != 0 || len(rows) != 0 {
		b.t.Errorf("Scan(%q) = %s, %d, %d, want %d", ignore, shown(rows), worked, errno, want)
	}
}

// wantCalls holds that a Scan makes so many calls of the file system.
func (b bench) wantCalls(ignore []string, want int) {
	b.t.Helper()
	was := b.f.Calls()
	scan.Scan(b.f, b.s, b.x, ignore)
	if got := b.f.Calls() - was; got != want {
		b.t.Errorf("Scan(%q) makes %d calls, want %d", ignore, got, want)
	}
}

func blobOf(data string) obj.Obj { return obj.Obj{Kind: obj.Blob, Data: []byte(data)} }

func hashOf(data string) string {
	id, _ := obj.ID(blobOf(data))
	return id
}

func row(path string, mode int, data string) api.Row {
	return api.Row{Path: path, Entry: api.Entry{Mode: mode, ID: hashOf(data)}}
}

func plain(path, data string) api.Row { return row(path, api.Plain, data) }

func shown(rows []api.Row) string {
	var b strings.Builder
	for _, r := range rows {
		fmt.Fprintf(&b, "%s:%d:%.6s ", r.Path, r.Mode, r.ID)
	}
	return fmt.Sprintf("[%s]", strings.TrimSpace(b.String()))
}

// told is all that can be asked of a file system without a call.
func told(f *fsim.FS) string {
	var b strings.Builder
	fmt.Fprintf(&b, "up %v, %d calls, %d changes, %d bytes, %d pending;", f.Up(), f.Calls(), f.Now(), f.Used(), f.Pending())
	for _, path := range f.Paths() {
		file, _ := f.Peek(path)
		fmt.Fprintf(&b, " %s:%d@%d:%.8s", path, file.Mode, file.Time, hashOf(string(file.Data)))
	}
	return b.String()
}
