package scan_test

import (
	"testing"

	"marline/api"
	"marline/fsim"
	"marline/obj"
	"marline/scan"
	"marline/store"
)

func TestNewIndex(t *testing.T) { // P13.3
	x := scan.NewIndex()
	if x == nil || x.Len() != 0 || x.Copy() == nil || x.Copy().Len() != 0 {
		t.Error("a new index has files")
	}
	b := newBench(t)
	b.users("w/a x")
	b.want(nil, 1, plain("a", "x"))
	if x.Len() != 0 || b.x.Len() != 1 || scan.NewIndex().Len() != 0 {
		t.Error("indexes are not apart")
	}
}

func TestLen(t *testing.T) { // P13.3
	b := newBench(t)
	for i, c := range []struct {
		act  func()
		want int
	}{
		{func() {}, 0},
		{func() { b.users("w/a x", "w/b x", "w/c/d x", "v x") }, 3},
		{func() { b.f.UserRemove("w/b") }, 2},
		{func() { b.users("w/b y", "w/a z", "w/c/e x") }, 4},
		{func() { b.f.Move("w/a", "v") }, 3},
		{func() { b.f.Move("v", "w/b") }, 3},
		{func() { b.f.UserRemove("w/b"); b.f.UserRemove("w/c/d"); b.f.UserRemove("w/c/e") }, 0},
	} {
		was := b.x.Len()
		c.act()
		if b.x.Len() != was {
			t.Errorf("step %d: %d paths ahead of the Scan, were %d", i, b.x.Len(), was)
		}
		scan.Scan(b.f, b.s, b.x, nil)
		if b.x.Len() != c.want {
			t.Errorf("step %d: %d paths, want %d", i, b.x.Len(), c.want)
		}
	}
}

func TestCopyIsOfItsOwn(t *testing.T) { // P13.3
	b := newBench(t)
	b.users("w/a x", "w/b y", "v x")
	b.want(nil, 2, plain("a", "x"), plain("b", "y"))
	c := b.copied()
	b.users("w/a z", "w/c z", "v x")
	b.f.UserRemove("w/b")
	b.want(nil, 2, plain("a", "z"), plain("c", "z"))
	if c.x.Len() != 2 || b.x.Len() != 2 {
		t.Errorf("%d and %d paths", c.x.Len(), b.x.Len())
	}
	c.want(nil, 0, plain("a", "x"), plain("b", "y"))
	d := c.copied()
	c.f.UserRemove("w/a")
	c.want(nil, 0, plain("b", "y"))
	if d.x.Len() != 2 {
		t.Errorf("the copy has %d paths", d.x.Len())
	}
	d.want(nil, 0, plain("a", "x"), plain("b", "y"))
	b.want(nil, 0, plain("a", "z"), plain("c", "z"))
}

// A copy has the time too at which the index was written.
func TestCopyHasTheTime(t *testing.T) { // P13.3
	b := newBench(t)
	b.put("x")
	b.users("w/a x") // at time 3
	b.want(nil, 1, plain("a", "x"))
	near := b.x.Copy()
	b.users("v x")
	b.want(nil, 1, plain("a", "x"))
	far := b.x.Copy()
	b.users("v x")
	b.x = near
	b.want(nil, 1, plain("a", "x"))
	b.x = far
	b.want(nil, 0, plain("a", "x"))
}

// An index that was written at a file's own time can't be relied on.
func TestWrittenAtTheFilesTime(t *testing.T) { // P13.1, the chapter's example
	b := newBench(t)
	b.put("x")
	c := newBench(t)
	b = bench{t, c.f, b.s, c.x} // the store lies in another file system
	b.users("w/a x")
	if b.f.Now() != 1 {
		t.Fatalf("time %d", b.f.Now())
	}
	b.want(nil, 1, plain("a", "x"))
	b.want(nil, 1, plain("a", "x"))
	b.users("v x")
	b.want(nil, 1, plain("a", "x"))
	b.want(nil, 0, plain("a", "x"))
	b.users("v x")
	b.want(nil, 0, plain("a", "x"))
	b.users("w/b x")
	b.want(nil, 1, plain("a", "x"), plain("b", "x"))
	b.want(nil, 1, plain("a", "x"), plain("b", "x"))
}

// The index is written behind all, at the time that is then: the puts of a
// Scan, and what users do meanwhile, are changes.
func TestWrittenAtTheEnd(t *testing.T) { // P13.1
	b := newBench(t)
	b.users("w/a x")
	b.want(nil, 1, plain("a", "x")) // its put is two changes
	b.want(nil, 0, plain("a", "x"))
	b.users("w/b x")
	b.want(nil, 1, plain("a", "x"), plain("b", "x")) // without a put
	b.want(nil, 1, plain("a", "x"), plain("b", "x"))
	b.at(5, fsim.Event{Kind: fsim.Wrote, Path: "v", Mode: 1}) // the last call of that Scan: the Read of b's Put
	b.want(nil, 1, plain("a", "x"), plain("b", "x"))
	b.want(nil, 0, plain("a", "x"), plain("b", "x"))
}

func TestAnotherTime(t *testing.T) { // P13.1
	b := newBench(t)
	b.users("w/a x", "w/b y", "v x")
	b.want(nil, 2, plain("a", "x"), plain("b", "y"))
	b.users("w/a x", "v x") // the same bytes
	b.want(nil, 1, plain("a", "x"), plain("b", "y"))
	b.want(nil, 0, plain("a", "x"), plain("b", "y"))
	b.f.UserWrite("w/a", api.Exec, []byte("x"))
	b.users("v x")
	b.want(nil, 1, row("a", api.Exec, "x"), plain("b", "y"))
	b.f.Move("w/b", "w/a") // with b's time, which is below all
	b.want(nil, 1, plain("a", "y"))
	b.f.Move("w/a", "w/b")
	b.want(nil, 1, plain("b", "y"))
	b.f.Move("w/b", "v")
	b.want(nil, 0)
	b.f.Move("v", "w/b") // it was there, but the index has just what the last Scan saw
	b.want(nil, 1, plain("b", "y"))
	b.want(nil, 0, plain("b", "y"))
}

// What was ignored, or went away between, is not in the index any more.
func TestIndexHasJustThesePaths(t *testing.T) { // P13.1
	b := newBench(t)
	b.users("w/a x", "w/b y", "v x")
	b.want(nil, 2, plain("a", "x"), plain("b", "y"))
	b.want([]string{"b"}, 0, plain("a", "x"))
	b.want(nil, 1, plain("a", "x"), plain("b", "y"))
	b.want(nil, 0, plain("a", "x"), plain("b", "y"))
	b.at(2, fsim.Event{Kind: fsim.Removed, Path: "w/a"})
	b.want(nil, 0, plain("b", "y"))
	if b.x.Len() != 1 {
		t.Errorf("%d paths", b.x.Len())
	}
	b.want(nil, 0, plain("b", "y"))
}

func TestObjectsThatAreNotThere(t *testing.T) { // P13.1
	b := newBench(t)
	b.users("w/a x", "w/b y", "v x")
	want := []api.Row{plain("a", "x"), plain("b", "y")}
	b.want(nil, 2, want...)
	place := "s/o/" + hashOf("y")
	for name, spoil := range map[string]func(){
		"dropped":     func() { b.s.Drop(hashOf("y")) },
		"removed":     func() { b.f.UserRemove(place) },
		"other bytes": func() { b.users(place + " other") },
		"another one": func() { b.f.UserWrite(place, api.Plain, []byte{obj.Blob, 'x'}) },
		"no bytes":    func() { b.users(place + " ") },
		"torn":        func() { b.f.UserWrite(place, api.Plain, []byte{obj.Blob}) },
	} {
		spoil()
		b.want(nil, 1, want...)
		if o, errno := b.s.GetObj(hashOf("y")); errno != api.OK || string(o.Data) != "y" {
			t.Errorf("%s: the store has %v, %d", name, o, errno)
		}
		b.want(nil, 0, want...)
	}
	b.s = store.Open(newBench(t).f) // another store
	b.want(nil, 2, want...)
	b.want(nil, 0, want...)
}

// If Has can't be asked, the hash is worked out.
func TestHasThatFails(t *testing.T) { // P13.1
	b := newBench(t)
	b.users("w/a x", "w/b y", "v x")
	want := []api.Row{plain("a", "x"), plain("b", "y")}
	b.want(nil, 2, want...)
	b.at(3, fsim.Event{Kind: fsim.Broken})
	b.want(nil, 1, want...)
	b.at(5, fsim.Event{Kind: fsim.Broken})
	b.want(nil, 1, want...)
	b.at(3, fsim.Event{Kind: fsim.Removed, Path: "s/o/" + hashOf("x")})
	b.want(nil, 1, want...)
	b.want(nil, 0, want...)
	if !b.s.Has(hashOf("x")) {
		t.Error("x is not put again")
	}
}

// What the index has is taken as it stands there, for a file of that time; its
// mode is the file's own.
func TestTakenAsItStands(t *testing.T) { // P13.1
	b, other := newBench(t), newBench(t)
	b.users("w/a x", "w/b y", "v x")
	b.want(nil, 2, plain("a", "x"), plain("b", "y"))
	other.f.UserWrite("w/a", api.Exec, []byte("another one"))
	other.users("v x", "w/b y") // b's time is another one here
	other.s, other.x = b.s, b.x.Copy()
	other.want(nil, 1, row("a", api.Exec, "x"), plain("b", "y"))
	other.x = b.x.Copy()
	b.s.Drop(hashOf("x"))
	other.want(nil, 2, row("a", api.Exec, "another one"), plain("b", "y"))
}
