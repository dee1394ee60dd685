package scan_test

import (
	"fmt"
	"strings"
	"testing"

	"marline/api"
	"marline/fsim"
	"marline/obj"
	"marline/scan"
)

func TestScanOfNothing(t *testing.T) { // P13.1
	b := newBench(t)
	b.want(nil, 0)
	b.users("v/a x", "wa x", "w.x x", "v/w/a x", "W/a x", "x/w x")
	b.want(nil, 0)
	b.users("w a file where the directory could be")
	b.want(nil, 0)
	if b.x.Len() != 0 || b.f.Used() != 6+35 {
		t.Errorf("the index has %d paths; %s", b.x.Len(), told(b.f))
	}
}

func TestScan(t *testing.T) { // P13.1
	b := newBench(t)
	b.users("v/a no", "wa/b no", "w/w/a deep", "w/b 2", "w/a-b ", "w/d/e/f 3", "w/a/b 4", "w/a0 5", "w/a.b 6", "w/~ 7", "w/A 2")
	b.f.UserWrite("w/b", api.Exec, []byte("2"))
	b.f.UserWrite("w/l", api.Link, []byte("a/b"))
	b.f.UserWrite("w/s/o", api.Link, []byte{0, 255, '\n'})
	want := []api.Row{
		plain("A", "2"), plain("a-b", ""), plain("a.b", "6"), plain("a/b", "4"), plain("a0", "5"), row("b", api.Exec, "2"), plain("d/e/f", "3"),
		row("l", api.Link, "a/b"), row("s/o", api.Link, "\x00\xff\n"), plain("w/a", "deep"), plain("~", "7"),
	}
	b.want(nil, len(want), want...)
	if b.x.Len() != len(want) {
		t.Errorf("the index has %d paths", b.x.Len())
	}
	for _, r := range want {
		o, errno := b.s.GetObj(r.ID)
		file, _ := b.f.Peek("w/" + r.Path)
		if errno != api.OK || !obj.Same(o, blobOf(string(file.Data))) {
			t.Errorf("%s: the store has %v, %d", r.Path, o, errno)
		}
	}
	if l, _ := b.s.List(); len(l) != len(want)-1 {
		t.Errorf("the store has %d objects", len(l))
	}
	b.want(nil, 0, want...)
}

// A path of 200 bytes and 8 names in the file system is the longest there is.
func TestLongPaths(t *testing.T) { // P13.1
	b := newBench(t)
	name := strings.Repeat("n", 64)
	long := name + "/" + name + "/" + name + "/xyz"
	b.users("w/"+long+" l", "w/1/2/3/4/5/6/7 d")
	if len("w/"+long) != api.MaxPath {
		t.Fatalf("%d bytes", len("w/"+long))
	}
	b.want([]string{"w", "w/", "w*"}, 2, plain("1/2/3/4/5/6/7", "d"), plain(long, "l"))
	b.want([]string{"xyz"}, 0, plain("1/2/3/4/5/6/7", "d"))
	b.want([]string{"7/", "6/", "n*/"}, 0)
}

func TestIgnored(t *testing.T) { // P13.1
	files := []string{"w/a.o x", "w/b x", "w/d/b x", "w/d/c.o x", "w/o/b x", "w/w x"}
	for _, c := range []struct {
		ignore []string
		want   string
	}{
		{nil, "a.o b d/b d/c.o o/b w"},
		{[]string{""}, "a.o b d/b d/c.o o/b w"},
		{[]string{"*", "*/", "/", "a*o", "d/b", "w/*", "*.*", "//", "**", "w/a.o"}, "a.o b d/b d/c.o o/b w"},
		{[]string{"*.o"}, "b d/b o/b w"},
		{[]string{"*.o/"}, "a.o b d/b d/c.o o/b w"},
		{[]string{"b"}, "a.o d/c.o w"},
		{[]string{"b/"}, "a.o b d/b d/c.o o/b w"},
		{[]string{"d"}, "a.o b o/b w"},
		{[]string{"d/"}, "a.o b o/b w"},
		{[]string{"w"}, "a.o b d/b d/c.o o/b"},
		{[]string{"w/"}, "a.o b d/b d/c.o o/b w"},
		{[]string{"*o"}, "b d/b w"},
		{[]string{"nothing", "o", "d*"}, "a.o b w"},
		{[]string{"*o", "b", "w", "d"}, ""},
	} {
		b := newBench(t)
		b.users(files...)
		var want []api.Row
		for _, path := range strings.Fields(c.want) {
			want = append(want, plain(path, "x"))
		}
		b.want(c.ignore, len(want), want...)
		if b.x.Len() != len(want) {
			t.Errorf("%q: the index has %d paths, want %d", c.ignore, b.x.Len(), len(want))
		}
	}
}

// What is ignored is neither read nor put, and however much and long it is,
// it is in nobody's way.
func TestIgnoredIsNotTouched(t *testing.T) { // P13.1
	b := newBench(t)
	for i := range 300 {
		b.users(fmt.Sprintf("w/no%03d %d", i, i))
	}
	b.users("w/no/long " + strings.Repeat("x", 20000))
	b.wantCalls([]string{"no*"}, 1)
	b.want([]string{"no*"}, 0)
	if l, _ := b.s.List(); len(l) != 0 || b.s.Reads() != 0 || b.x.Len() != 0 {
		t.Errorf("%d objects, %d reads, %d paths", len(l), b.s.Reads(), b.x.Len())
	}
}

// A Scan calls List, then of each file Read, and what the store calls.
func TestCallsOfAScan(t *testing.T) { // P13.1
	b := newBench(t)
	b.wantCalls(nil, 1)
	b.users("w/a 1")
	b.wantCalls(nil, 1+1+3) // Put: Read, Write, Move
	b.wantCalls(nil, 1+1+1) // Has: Read
	b.users("w/a 2", "w/b 2")
	b.wantCalls(nil, 1+(1+3)+(1+1)) // what is put already is just read
	b.wantCalls(nil, 1+(1+1)+(1+1))
	b.s.Drop(hashOf("2"))
	b.wantCalls(nil, 1+(1+1+3)+(1+1)) // Has tells no, so Put does all; b's Has tells yes then
}

// Of a file that was just written nothing is relied on: so Has is not asked.
func TestHasIsAskedLast(t *testing.T) { // P13.1
	b := newBench(t)
	b.put("x")
	b.users("w/a x")
	for range 3 {
		reads := b.s.Reads()
		b.want(nil, 1, plain("a", "x"))
		if b.s.Reads() != reads+1 {
			t.Errorf("%d reads of the store", b.s.Reads()-reads)
		}
	}
}

func TestFilesAtTheirGreatest(t *testing.T) { // P13.1
	long := strings.Repeat("l", api.MaxFile)
	b := newBench(t)
	b.users("w/a "+long, "w/b ", "v x")
	b.want(nil, 2, plain("a", long), plain("b", ""))
	b.want(nil, 0, plain("a", long), plain("b", ""))
	for _, n := range []int{api.MaxFile + 1, api.MaxObj - 1, api.MaxObj} {
		b := newBench(t)
		b.users("w/a x", "w/b "+strings.Repeat("l", n), "w/c y")
		b.wantErrno(nil, api.ErrLong)
		if l, _ := b.s.List(); len(l) != 1 || l[0] != hashOf("x") {
			t.Errorf("%d bytes: the store has %q", n, l)
		}
		b.want([]string{"b"}, 2, plain("a", "x"), plain("c", "y"))
	}
}

func TestMostFiles(t *testing.T) { // P13.1
	b := newBench(t)
	var want []api.Row
	for i := range api.MaxFiles {
		path := fmt.Sprintf("f%03d", i)
		b.users("w/" + path + " x")
		want = append(want, plain(path, "x"))
	}
	b.users("v x")
	b.want(nil, 256, want...)
	b.want(nil, 0, want...)
	b.users("w/z x")
	b.wantErrno(nil, api.ErrLimit)
	b.want([]string{"z"}, 0, want...)
	b.want([]string{"f000"}, 1, append(want[1:], plain("z", "x"))...)
	b.users("w/A x")
	b.wantErrno(nil, api.ErrLimit)
}

// The limit is told ahead of the Read: whatever stands there, and though
// nothing does any more.
func TestLimitAheadOfTheRead(t *testing.T) { // P13.1
	full := newBench(t)
	for i := range api.MaxFiles {
		full.users(fmt.Sprintf("w/f%03d x", i))
	}
	full.put("x")
	full.users("w/z x", "v x")
	calls := 1 + 2*256
	for name, e := range map[string]fsim.Event{
		"nothing": {}, "broken": {Kind: fsim.Broken}, "removed": {Kind: fsim.Removed, Path: "w/z"}, "long": {Kind: fsim.Wrote, Mode: 1, Path: "w/z", Data: make([]byte, 20000)},
	} {
		b := full.copied()
		b.at(calls+1, e)
		was := b.f.Calls()
		b.wantErrno(nil, api.ErrLimit)
		if got := b.f.Calls() - was; got != calls {
			t.Errorf("%s: %d calls, want %d", name, got, calls)
		}
	}
	b := full.copied()
	b.at(calls, fsim.Event{Kind: fsim.Removed, Path: "w/z"})
	b.wantErrno(nil, api.ErrLimit)
	b = full.copied()
	b.at(calls, fsim.Event{Kind: fsim.Broken})
	b.wantErrno(nil, api.ErrIO)
	b = full.copied()
	b.at(4, fsim.Event{Kind: fsim.Removed, Path: "w/f001"}) // its Read: so there is room for one more
	rows, _, errno := scan.Scan(b.f, b.s, b.x, nil)
	if errno != api.OK || len(rows) != 256 || rows[1].Path != "f002" || rows[255].Path != "z" || b.x.Len() != 256 {
		t.Errorf("%d rows, %d", len(rows), errno)
	}
}
