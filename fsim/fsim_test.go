package fsim_test

import (
	"fmt"
	"math"
	"slices"
	"testing"

	"marline/api"
	"marline/fsim"
)

func newFS(t *testing.T, room int) *fsim.FS {
	t.Helper()
	f, errno := fsim.New(room)
	if errno != api.OK || f == nil {
		t.Fatalf("New(%d): %d", room, errno)
	}
	return f
}

// step is a call and what it must answer.
type step struct {
	act  act
	want string
}

func takeSteps(t *testing.T, f *fsim.FS, steps []step) {
	t.Helper()
	for i, s := range steps {
		if got := s.act.do(f); got != s.want {
			t.Errorf("step %d: %s = %s, want %s", i, s.act.name, got, s.want)
		}
	}
}

func wantFiles(t *testing.T, f *fsim.FS, want string) {
	t.Helper()
	if got := filesOf(f); got != want {
		t.Errorf("files%s, want%s", got, want)
	}
}

func TestNewAtItsBounds(t *testing.T) { // P5.1
	for room, want := range map[int]api.Errno{
		0: api.OK, 1: api.OK, 1<<30 - 1: api.OK, 1 << 30: api.OK,
		-1: api.ErrRange, 1<<30 + 1: api.ErrRange, math.MaxInt: api.ErrRange, math.MinInt: api.ErrRange, 1 << 32: api.ErrRange,
	} {
		f, errno := fsim.New(room)
		if errno != want || (f != nil) != (want == api.OK) {
			t.Errorf("New(%d): %v, %d", room, f != nil, errno)
		}
		if f != nil && (told(f) != "up true, 0 calls, 0 changes, 0 bytes, 0 pending; files; user" || len(f.Paths()) != 0 || len(f.User()) != 0) {
			t.Errorf("New(%d) has %s", room, told(f))
		}
	}
}

func TestCounts(t *testing.T) { // P5.1, P5.2
	f := newFS(t, 100)
	for i, c := range []struct {
		act  act
		want [4]int // calls, changes, bytes, pending
	}{
		{create("a", 1, "abc"), [4]int{1, 1, 3, 1}},
		{create("a", 1, "abc"), [4]int{2, 1, 3, 1}},
		{write("a", 1, "abcd"), [4]int{3, 2, 4, 2}},
		{write("a", 1, "abcd"), [4]int{4, 3, 4, 3}}, // the same bytes: a change all the same
		{write("b/c", 1, ""), [4]int{5, 4, 4, 4}},
		{write("b/c", 9, ""), [4]int{6, 4, 4, 4}},
		{read("a"), [4]int{7, 4, 4, 4}},
		{read("x"), [4]int{8, 4, 4, 4}},
		{list(""), [4]int{9, 4, 4, 4}},
		{list("//"), [4]int{10, 4, 4, 4}},
		{move("a", "a"), [4]int{11, 4, 4, 4}}, // nothing was done
		{move("a", "b/c"), [4]int{12, 5, 4, 5}},
		{moveNew("b/c", "d"), [4]int{13, 6, 4, 6}},
		{moveNew("b/c", "d"), [4]int{14, 6, 4, 6}},
		{peek("d"), [4]int{14, 6, 4, 6}},
		{write("e", 2, "12345"), [4]int{15, 7, 9, 7}},
		{remove("d"), [4]int{16, 8, 5, 8}},
		{remove("d"), [4]int{17, 8, 5, 8}},
		{syncCall(), [4]int{18, 8, 5, 0}},
		{syncCall(), [4]int{19, 8, 5, 0}},
		{remove("e"), [4]int{20, 9, 0, 1}},
		{userWrite("e", 2, "1"), [4]int{20, 10, 1, 0}},
		{userWrite("e/f", 2, "1"), [4]int{20, 10, 1, 0}},
		{userRemove("e"), [4]int{20, 11, 0, 0}},
		{write("e", 2, "12"), [4]int{21, 12, 2, 1}},
		{reboot(), [4]int{21, 12, 2, 1}},
		{crash(0, 1), [4]int{21, 12, 1, 0}},
		{syncCall(), [4]int{22, 12, 1, 0}},
		{write("e", 2, "123"), [4]int{23, 12, 1, 0}},
		{userWrite("e", 2, "123"), [4]int{23, 12, 1, 0}},
		{reboot(), [4]int{23, 12, 1, 0}},
		{write("e", 2, "123"), [4]int{24, 13, 3, 1}},
	} {
		c.act.do(f)
		if got := [4]int{f.Calls(), f.Now(), f.Used(), f.Pending()}; got != c.want {
			t.Errorf("behind step %d, %s: %v, want %v", i, c.act.name, got, c.want)
		}
	}
	wantFiles(t, f, ` e:2"123"@13`)
}

func TestUp(t *testing.T) { // P5.1, P5.4
	f := newFS(t, 100)
	for i, c := range []struct {
		act  act
		want bool
	}{
		{syncCall(), true}, {reboot(), true}, {crash(0, 0), false}, {crash(0, 0), false}, {syncCall(), false}, {read("a"), false}, {userRemove("a"), false},
		{reboot(), true}, {reboot(), true}, {write("a", 1, ""), true}, {crash(9, 9), false}, {reboot(), true},
	} {
		c.act.do(f)
		if f.Up() != c.want {
			t.Errorf("behind step %d, %s: Up() = %v", i, c.act.name, !c.want)
		}
	}
}

func TestPeekAndPaths(t *testing.T) { // P5.5
	f := newFS(t, 100)
	for _, path := range []string{"b", "a.b", "a/b", "a/a/b", "aa", "Z", "~", "a/A"} {
		f.Create(path, api.Link, []byte(path))
	}
	want := []string{"Z", "a.b", "a/A", "a/a/b", "a/b", "aa", "b", "~"}
	for _, up := range []bool{true, false} {
		if up != f.Up() || !slices.Equal(f.Paths(), want) {
			t.Errorf("up %v: Paths() = %q, want %q", f.Up(), f.Paths(), want)
		}
		for _, path := range want {
			if file, stands := f.Peek(path); !stands || file.Mode != api.Link || string(file.Data) != path || file.Time < 1 || file.Time > 8 {
				t.Errorf("Peek(%s) = %+v, %v", path, file, stands)
			}
		}
		for _, path := range []string{"", "/", "a", "a/", "a/a", "A", "b/", "no path\x00", "Z/a"} {
			if file, stands := f.Peek(path); stands || file.Mode != 0 || len(file.Data) != 0 || file.Time != 0 {
				t.Errorf("Peek(%q) = %+v, %v", path, file, stands)
			}
		}
		if f.Calls() != 8 || f.Now() != 8 {
			t.Errorf("%d calls, %d changes", f.Calls(), f.Now())
		}
		f.Crash(8, 0)
	}
}

func TestCopyIsOfItsOwn(t *testing.T) { // P5.5
	f := newFS(t, 10)
	f.Create("a", api.Plain, []byte("ab"))
	f.UserWrite("b", api.Exec, []byte("c"))
	f.Write("a", api.Plain, []byte("abc"))
	f.Move("b", "d/e")
	f.Plan([]fsim.Event{{At: 4, Kind: fsim.Broken}, {At: 5, Kind: fsim.NoRoom}, {At: 6, Kind: fsim.Wrote, Path: "f", Mode: 1, Data: []byte("user")}})
	was := told(f)
	c := f.Copy()
	if told(c) != was {
		t.Fatalf("the copy has %s, want %s", told(c), was)
	}
	takeSteps(t, c, []step{{write("g", 1, ""), "11"}, {write("g", 1, ""), "10"}, {write("g", 1, ""), "0"}, {remove("f"), "0"}, {remove("a"), "0"}})
	c.Plan(nil)
	c.UserRemove("d/e")
	c.Crash(1, 1)
	if told(f) != was {
		t.Errorf("the copy's acts show: %s, want %s", told(f), was)
	}
	d := f.Copy()
	takeSteps(t, f, []step{{syncCall(), "11"}, {write("g", 1, ""), "10"}, {write("g", 1, ""), "0"}, {write("g", 1, "12345"), "10"}})
	if told(d) != was {
		t.Errorf("its acts show in a copy: %s, want %s", told(d), was)
	}
	d.Crash(1, 0)
	wantFiles(t, d, ` a:1"abc"@3 b:2"c"@2`)
	wantFiles(t, f, ` a:1"abc"@3 d/e:2"c"@2 f:1"user"@5 g:1""@6`)
	d.Reboot()
	takeSteps(t, d, []step{{syncCall(), "11"}, {create("h", 1, ""), "10"}, {read("f"), `1"user"@5` + "0"}})
	c.Reboot()
	if got := (write("g", 1, "12345678901")).do(c); got != "10" {
		t.Errorf("a copy has room for more: %s", got)
	}
}

// Nothing that a copy appends is seen in the other ones.
func TestCopiesAppendBesideOneAnother(t *testing.T) { // P5.5, P5.6
	f := newFS(t, 1000)
	for n := range 40 {
		f.Write("a", api.Plain, []byte(fmt.Sprint(n)))
		c, d := f.Copy(), f.Copy()
		c.Write("c", api.Plain, []byte("c"))
		d.Write("d", api.Plain, []byte("d"))
		f.Write("f", api.Plain, []byte("f"))
		c.Crash(2+2*n, -1)
		d.Crash(2+2*n, -1)
		if _, stands := c.Peek("c"); !stands {
			t.Fatalf("%d pending: the first copy has%s", f.Pending(), filesOf(c))
		}
		if _, stands := d.Peek("d"); !stands {
			t.Fatalf("%d pending: the second copy has%s", f.Pending(), filesOf(d))
		}
	}
	for n := range 40 {
		f.UserWrite("a", api.Plain, []byte(fmt.Sprint(n)))
		c, d := f.Copy(), f.Copy()
		c.UserWrite("c", api.Plain, nil)
		d.UserWrite("d", api.Plain, nil)
		if l, m := c.User(), d.User(); len(l) != n+2 || l[n+1].Path != "c" || len(m) != n+2 || m[n+1].Path != "d" || len(f.User()) != n+1 {
			t.Fatalf("%d users' acts: %v, %v", n+1, l, m)
		}
	}
}
