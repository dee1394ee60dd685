package fsim_test

import (
	"fmt"
	"math"
	"math/rand"
	"strings"
	"testing"

	"marline/api"
	"marline/fsim"
	"marline/names"
)

// pendingFS has three changes that are durable and six that are not.
func pendingFS(t *testing.T) *fsim.FS {
	t.Helper()
	f := newFS(t, 1000)
	takeSteps(t, f, []step{
		{create("a", 1, "one"), "0"}, {create("d/e", 2, "two"), "0"}, {create("x", 3, ""), "0"}, {syncCall(), "0"},
		{write("a", 2, "ONE"), "0"}, {move("a", "d/a"), "0"}, {create("a/b", 1, "four"), "0"}, {move("d/e", "d/a"), "0"}, {remove("x"), "0"}, {write("a/b", 3, ""), "0"},
	})
	return f
}

func TestCrash(t *testing.T) { // P5.4
	const (
		synced   = ` a:1"one"@1 d/e:2"two"@2 x:3""@3`
		written  = ` a:2"ONE"@4 d/e:2"two"@2 x:3""@3`
		moved    = ` d/a:2"ONE"@4 d/e:2"two"@2 x:3""@3`
		created  = ` a/b:1"four"@6 d/a:2"ONE"@4 d/e:2"two"@2 x:3""@3`
		replaced = ` a/b:1"four"@6 d/a:2"two"@2 x:3""@3`
		removed  = ` a/b:1"four"@6 d/a:2"two"@2`
		all      = ` a/b:3""@9 d/a:2"two"@2`
	)
	for _, c := range []struct {
		keep, torn int
		want       string
	}{
		{0, -1, synced}, {-1, -1, synced}, {math.MinInt, math.MinInt, synced}, {0, 3, synced}, {0, 4, synced}, {0, math.MaxInt, synced},
		{0, 0, ` a:2""@4 d/e:2"two"@2 x:3""@3`}, {0, 1, ` a:2"O"@4 d/e:2"two"@2 x:3""@3`}, {-5, 2, ` a:2"ON"@4 d/e:2"two"@2 x:3""@3`},
		{1, -1, written}, {1, 0, written}, {1, 1, written}, // a Move is not torn
		{2, -1, moved}, {2, 4, moved}, {2, 0, ` a/b:1""@6 d/a:2"ONE"@4 d/e:2"two"@2 x:3""@3`}, {2, 3, ` a/b:1"fou"@6 d/a:2"ONE"@4 d/e:2"two"@2 x:3""@3`},
		{3, -1, created}, {3, 0, created}, {3, 2, created}, {4, -1, replaced}, {4, 0, replaced}, // nor is a Remove
		{5, -1, removed}, {5, 0, removed}, {5, 1, removed}, // nothing is shorter than no byte
		{6, -1, all}, {6, 0, all}, {7, 0, all}, {math.MaxInt, 0, all}, {math.MaxInt, -1, all},
	} {
		f := pendingFS(t)
		if f.Pending() != 6 {
			t.Fatalf("%d pending", f.Pending())
		}
		f.Crash(c.keep, c.torn)
		for _, again := range []string{"", " again", " again and again"} {
			if filesOf(f) != c.want || f.Up() || f.Pending() != 0 || f.Calls() != 10 || f.Now() != 9 {
				t.Errorf("Crash(%d, %d)%s: up %v, %d pending, %d changes, files%s, want%s", c.keep, c.torn, again, f.Up(), f.Pending(), f.Now(), filesOf(f), c.want)
			}
			if again == " again" {
				f.Reboot()
				if !f.Up() {
					t.Error("Reboot() leaves it down")
				}
			}
			f.Crash(0, 0)
		}
	}
}

func TestUsedBehindACrash(t *testing.T) { // P5.4, P5.1
	for _, c := range []struct{ keep, torn, want int }{{0, -1, 6}, {0, 0, 3}, {0, 2, 5}, {1, 0, 6}, {2, 1, 7}, {3, 0, 10}, {4, 0, 7}, {5, 0, 7}, {6, 0, 3}} {
		f := pendingFS(t)
		f.Crash(c.keep, c.torn)
		if f.Used() != c.want {
			t.Errorf("Crash(%d, %d): %d bytes, want %d", c.keep, c.torn, f.Used(), c.want)
		}
	}
}

func TestExampleOfTheChapter(t *testing.T) { // P5.4
	f := newFS(t, 10)
	takeSteps(t, f, []step{{create("a", 1, "x"), "0"}, {syncCall(), "0"}, {write("a", 1, "yz"), "0"}, {crash(0, 1), ""}, {peek("a"), `1"y"@2true`}})
	f = newFS(t, 10)
	takeSteps(t, f, []step{{create("a", 1, "x"), "0"}, {create("a/b", 1, ""), "9"}})
}

func TestDown(t *testing.T) { // P5.2, P5.3, P5.4
	f := pendingFS(t)
	f.Crash(0, -1)
	was := filesOf(f)
	takeSteps(t, f, []step{
		{read("a"), `0""@012`}, {list(""), "12"}, {create("n", 1, ""), "12"}, {write("a", 1, ""), "12"}, {move("a", "n"), "12"}, {moveNew("a", "n"), "12"}, {remove("a"), "12"}, {syncCall(), "12"},
		{userWrite("a", 1, "u"), "12"}, {userRemove("a"), "12"}, {userWrite("/", 1, "u"), "12"}, {userRemove("/"), "12"}, {userRemove("none"), "12"},
		{plan([]fsim.Event{{At: 1, Kind: fsim.Wrote, Path: "a", Mode: 1}, {At: 1, Kind: fsim.Removed, Path: "a"}, {At: 1, Kind: fsim.Crashed}, {At: 1, Kind: fsim.Broken}}), ""}, {read("a"), `0""@012`},
	})
	if filesOf(f) != was || f.Calls() != 19 || f.Now() != 9 || len(f.User()) != 0 || f.Pending() != 0 {
		t.Errorf("%s, want%s", told(f), was)
	}
	f.Reboot()
	takeSteps(t, f, []step{{read("a"), `1"one"@10`}, {write("a", 1, "n"), "0"}, {read("a"), `1"n"@100`}})
}

// What is left behind a crash is durable; what is done then is pending.
func TestFallsOneBehindAnother(t *testing.T) { // P5.4
	f := pendingFS(t)
	takeSteps(t, f, []step{{crash(2, 1), ""}, {reboot(), ""}, {write("a/b", 1, "whole"), "0"}, {crash(0, -1), ""}, {peek("a/b"), `1"f"@6true`}, {reboot(), ""}})
	takeSteps(t, f, []step{{write("a/b", 1, "whole"), "0"}, {remove("a/b"), "0"}, {crash(1, -1), ""}, {peek("a/b"), `1"whole"@11true`}, {reboot(), ""}, {remove("a/b"), "0"}, {syncCall(), "0"}, {crash(0, 0), ""}, {peek("a/b"), `0""@0false`}})
	wantFiles(t, f, ` d/a:2"ONE"@4 d/e:2"two"@2 x:3""@3`)
}

// What a directory is must be known behind a crash, too.
func TestDirectoriesBehindACrash(t *testing.T) { // P5.4, P5.2
	f := newFS(t, 10)
	takeSteps(t, f, []step{
		{create("a/b", 1, ""), "0"}, {syncCall(), "0"}, {remove("a/b"), "0"}, {create("a", 1, ""), "0"}, {crash(0, 0), ""}, {reboot(), ""},
		{create("a", 1, ""), "9"}, {create("a/b/c", 1, ""), "9"}, {remove("a/b"), "0"}, {create("a", 1, ""), "0"}, {crash(2, 0), ""}, {reboot(), ""},
		{create("a/b", 1, ""), "9"}, {remove("a"), "0"}, {create("a/b", 1, ""), "0"}, {crash(0, 0), ""}, {reboot(), ""}, {create("a/b", 1, ""), "9"}, {create("a", 1, ""), "8"},
	})
}

// What was synced, or a user did, outlives every crash; a file is as it was
// written at its time, or a front part of that.
func TestWhatOutlivesEveryCrash(t *testing.T) { // P5.7
	r := rand.New(rand.NewSource(57))
	for range 400 {
		f := newFS(t, 1000)
		sure := map[string]string{}
		for n := range 40 {
			path := []string{"a", "b", "a/x", "a/y", "b/x/z", "c"}[r.Intn(6)]
			data := strings.Repeat(fmt.Sprint(n), r.Intn(4))
			byUser := r.Intn(6) == 0
			if byUser && f.UserWrite(path, api.Plain, []byte(data)) == api.OK || !byUser && f.Write(path, api.Plain, []byte(data)) == api.OK && f.Sync() == api.OK {
				sure[path] = data
			}
			f.Write("other", api.Plain, []byte("pending"))
			f.MoveNew("other", "other/"+path)
			checkNoneUnderAnother(t, f)
			if r.Intn(5) == 0 {
				f.Crash(r.Intn(4)-1, r.Intn(4)-1)
				f.Reboot()
			}
			for path, data := range sure {
				if file, stands := f.Peek(path); !stands || string(file.Data) != data {
					t.Fatalf("%s is lost: files%s", path, filesOf(f))
				}
			}
		}
	}
}

func checkNoneUnderAnother(t *testing.T, f *fsim.FS) {
	t.Helper()
	l := f.Paths()
	for _, dir := range l {
		for _, path := range l {
			if names.Under(dir, path) {
				t.Fatalf("%s stands under %s", path, dir)
			}
		}
	}
}
