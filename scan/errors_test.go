package scan_test

import (
	"strings"
	"testing"

	"marline/api"
	"marline/fsim"
	"marline/scan"
)

// twoFiles has a file that is known, and one whose Blob is to be put: the calls
// of a Scan are List, Read, Has's Read, Read, Put's Read, Write, Move.
func twoFiles(t *testing.T) bench {
	b := newBench(t)
	b.users("w/a x", "v x")
	b.want(nil, 1, plain("a", "x"))
	b.users("w/b y")
	return b
}

const (
	toList = 1 + iota
	toReadA
	toHasA
	toReadB
	toPutRead
	toPutWrite
	toPutMove
	toEnd
)

func TestErrors(t *testing.T) { // P13.1
	for i, c := range []struct {
		at, kind int
		want     api.Errno
	}{
		{toList, fsim.Broken, api.ErrIO}, {toReadA, fsim.Broken, api.ErrIO}, {toReadB, fsim.Broken, api.ErrIO},
		{toPutRead, fsim.Broken, api.ErrIO}, {toPutWrite, fsim.Broken, api.ErrIO}, {toPutMove, fsim.Broken, api.ErrIO},
		{toPutWrite, fsim.NoRoom, api.ErrFull},
		{toList, fsim.Crashed, api.ErrDown}, {toReadA, fsim.Crashed, api.ErrDown}, {toHasA, fsim.Crashed, api.ErrDown}, {toReadB, fsim.Crashed, api.ErrDown},
		{toPutRead, fsim.Crashed, api.ErrDown}, {toPutWrite, fsim.Crashed, api.ErrDown}, {toPutMove, fsim.Crashed, api.ErrDown},
	} {
		b := twoFiles(t)
		b.at(c.at, fsim.Event{Kind: c.kind})
		was := b.f.Calls()
		b.wantErrno(nil, c.want)
		if got := b.f.Calls() - was; c.at != toHasA && got != c.at {
			t.Errorf("case %d: %d calls, want %d", i, got, c.at)
		}
	}
}

func TestWhatIsNoError(t *testing.T) { // P13.1
	for _, e := range []struct{ at, kind int }{
		{toHasA, fsim.Broken}, {toEnd, fsim.Broken}, {toEnd, fsim.Crashed}, {toList, fsim.NoRoom}, {toReadB, fsim.NoRoom}, {toPutMove, fsim.NoRoom}, {toPutRead, fsim.NoRoom},
	} {
		b := twoFiles(t)
		b.at(e.at, fsim.Event{Kind: e.kind})
		wantWorked := 1
		if e.at == toHasA {
			wantWorked = 2
		}
		b.want(nil, wantWorked, plain("a", "x"), plain("b", "y"))
	}
}

func TestFilesThatVanish(t *testing.T) { // P13.1
	for _, c := range []struct {
		at         int
		path       string
		wantWorked int
		want       []api.Row
	}{
		{toList, "w/a", 1, []api.Row{plain("b", "y")}},
		{toReadA, "w/a", 1, []api.Row{plain("b", "y")}},
		{toHasA, "w/a", 1, []api.Row{plain("a", "x"), plain("b", "y")}},
		{toReadA, "w/b", 0, []api.Row{plain("a", "x")}},
		{toReadB, "w/b", 0, []api.Row{plain("a", "x")}},
		{toPutRead, "w/b", 1, []api.Row{plain("a", "x"), plain("b", "y")}},
	} {
		b := twoFiles(t)
		b.at(c.at, fsim.Event{Kind: fsim.Removed, Path: c.path})
		b.want(nil, c.wantWorked, c.want...)
		if b.x.Len() != len(c.want) {
			t.Errorf("%s removed at call %d: the index has %d paths", c.path, c.at, b.x.Len())
		}
	}
	b := newBench(t)
	b.users("w/a x", "w/b y")
	b.at(2, fsim.Event{Kind: fsim.Removed, Path: "w/a"})
	b.f.Plan([]fsim.Event{{At: b.f.Calls() + 2, Kind: fsim.Removed, Path: "w/a"}, {At: b.f.Calls() + 2, Kind: fsim.Wrote, Mode: 1, Path: "w/a/c"}, {At: b.f.Calls() + 3, Kind: fsim.Removed, Path: "w/b"}})
	b.want(nil, 0) // the one that came behind the List isn't seen
	b.want(nil, 1, plain("a/c", ""))
}

func TestDown(t *testing.T) { // P13.1
	b := twoFiles(t)
	b.f.Crash(9, 9)
	b.wantErrno(nil, api.ErrDown)
	b.wantErrno([]string{"a", "b"}, api.ErrDown)
	b.f.Reboot()
	b.want(nil, 1, plain("a", "x"), plain("b", "y"))
}

func TestErrorsOfTheStore(t *testing.T) { // P13.1
	full := newBenchOf(t, 0)
	full.users("w/a x")
	full.wantErrno(nil, api.ErrFull)
	full.want([]string{"a"}, 0)
	for _, path := range []string{"s", "s/o", "s/t/a", "s/o/" + hashOf("x") + "/a"} {
		b := newBench(t)
		b.users("w/a x", path+" in the way")
		b.wantErrno(nil, api.ErrDir)
	}
}

// The error of the first path that has one goes up.
func TestFirstError(t *testing.T) { // P13.1
	long := strings.Repeat("l", api.MaxFile+1)
	b := newBench(t)
	b.put("x")
	b.users("w/a x", "w/b "+long, "w/c x", "w/d "+long)
	for at, want := range map[int]api.Errno{1: api.ErrIO, 2: api.ErrIO, 3: api.ErrIO, 4: api.ErrIO, 5: api.ErrLong, 6: api.ErrLong} {
		c := b.copied()
		c.at(at, fsim.Event{Kind: fsim.Broken})
		c.wantErrno(nil, want)
	}
	b.at(5, fsim.Event{Kind: fsim.Broken})
	b.wantErrno([]string{"b"}, api.ErrIO)
	b.wantErrno([]string{"b"}, api.ErrLong)
	b.want([]string{"b", "d"}, 2, plain("a", "x"), plain("c", "x"))
}

// Behind each error the index is what it was ahead of it: what it knew it
// knows, what it didn't know it doesn't.
func TestIndexStaysAtErrors(t *testing.T) { // P13.1
	for at := toList; at < toEnd; at++ {
		for _, kind := range []int{fsim.Broken, fsim.NoRoom} {
			b := twoFiles(t)
			b.users("v x")
			b.at(at, fsim.Event{Kind: kind})
			if _, _, errno := scan.Scan(b.f, b.s, b.x, nil); errno == api.OK {
				continue
			}
			if b.x.Len() != 1 {
				t.Errorf("event %d at call %d: the index has %d paths", kind, at, b.x.Len())
			}
			b.want(nil, 1, plain("a", "x"), plain("b", "y"))
		}
	}
	b := twoFiles(t)
	b.put("y", "z")
	for name, spoil := range map[string]func(b bench){
		"ErrLong":  func(b bench) { b.users("w/c " + strings.Repeat("l", 4097)) },
		"ErrDown":  func(b bench) { b.at(4, fsim.Event{Kind: fsim.Crashed, Keep: 9}) },
		"ErrLimit": func(b bench) { b.users(manyFiles("w/m", 255)...) },
		"ErrIO":    func(b bench) { b.at(1, fsim.Event{Kind: fsim.Broken}) },
	} {
		c := b.copied()
		c.users("v x")
		spoil(c)
		if _, _, errno := scan.Scan(c.f, c.s, c.x, nil); errno == api.OK || c.x.Len() != 1 {
			t.Errorf("%s: %d, the index has %d paths", name, errno, c.x.Len())
		}
		c.f.Plan(nil)
		c.f.Reboot()
		c.want([]string{"c", "m*"}, 1, plain("a", "x"), plain("b", "y"))
	}
}

// An error leaves the time at which the index was written, too.
func TestTimeOfTheIndexStays(t *testing.T) { // P13.1
	b := newBench(t)
	b.put("x")
	b.users("w/a x")
	b.want(nil, 1, plain("a", "x")) // written at a's own time
	b.users("v x")
	b.at(3, fsim.Event{Kind: fsim.Broken})
	b.wantErrno(nil, api.ErrIO)
	b.want(nil, 1, plain("a", "x"))
	b.want(nil, 0, plain("a", "x"))
}

func manyFiles(path string, n int) []string {
	var files []string
	for i := range n {
		files = append(files, path+strings.Repeat("x", i%50)+string(rune('a'+i/50))+" x")
	}
	return files
}
