package fsim_test

import (
	"strings"
	"sync"
	"testing"

	"marline/api"
	"marline/fsim"
)

func TestRead(t *testing.T) { // P5.2
	f := newFS(t, 100)
	takeSteps(t, f, []step{
		{read("a"), `0""@07`}, {create("a", 3, "x\x00y"), "0"}, {read("a"), `3"x\x00y"@10`}, {create("d/e/f", 2, ""), "0"}, {read("d/e/f"), `2""@20`},
		{read("d"), `0""@07`}, {read("d/e"), `0""@07`}, {read("a/b"), `0""@07`}, {read("A"), `0""@07`},
		{read(""), `0""@06`}, {read("/a"), `0""@06`}, {read("a/"), `0""@06`}, {read("a//b"), `0""@06`}, {read("./a"), `0""@06`}, {read("a b"), `0""@06`},
		{write("a", 1, "later"), "0"}, {read("a"), `1"later"@30`}, {move("a", "b"), "0"}, {read("b"), `1"later"@30`}, {read("a"), `0""@07`},
		{remove("b"), "0"}, {read("b"), `0""@07`},
	})
}

func TestList(t *testing.T) { // P5.2
	f := newFS(t, 100)
	takeSteps(t, f, []step{
		{list(""), "0"}, {list("a"), "0"},
		{create("b", 1, ""), "0"}, {create("a/z", 1, ""), "0"}, {create("a/b/c", 1, ""), "0"}, {create("a-b/c", 1, ""), "0"}, {create("ab/c", 1, ""), "0"}, {create("a0", 1, ""), "0"},
		{list(""), "a-b/c a/b/c a/z a0 ab/c b0"}, {list("a"), "a/b/c a/z0"}, {list("a/b"), "a/b/c0"}, {list("a/b/c"), "0"}, {list("b"), "0"}, {list("A"), "0"}, {list("none/at/all"), "0"},
		{list("/"), "6"}, {list("a/"), "6"}, {list("/a"), "6"}, {list("a//b"), "6"}, {list("."), "6"}, {list(".."), "6"}, {list(" "), "6"}, {list("a/b/c/d/e/f/g/h/i"), "6"},
		{remove("a/z"), "0"}, {list("a"), "a/b/c0"}, {remove("a/b/c"), "0"}, {list("a"), "0"}, {list(""), "a-b/c a0 ab/c b0"},
	})
	if l, errno := f.List("/"); l != nil || errno != api.ErrName {
		t.Errorf("List(/) = %v, %d", l, errno)
	}
}

func TestCreate(t *testing.T) { // P5.2
	f := newFS(t, 100000)
	long := strings.Repeat("x", api.MaxObj)
	takeSteps(t, f, []step{
		{create("a", api.Plain, "x"), "0"}, {create("a", api.Plain, "y"), "8"}, {create("b", api.Exec, ""), "0"}, {create("c/d/e", api.Link, long), "0"},
		{create("", 1, ""), "6"}, {create("/", 1, ""), "6"}, {create("x/", 1, ""), "6"}, {create("x//y", 1, ""), "6"}, {create("../x", 1, ""), "6"},
		{create("x", 0, ""), "1"}, {create("x", -1, ""), "1"}, {create("x", api.Dir, ""), "1"}, {create("x", 5, ""), "1"}, {create("x", 1<<32+1, ""), "1"}, {create("x", -1<<63, ""), "1"},
		{create("x", 1, long+"x"), "3"}, {create("x", 1, long+long), "3"},
		{create("a/b", 1, ""), "9"}, {create("a/b/c/d", 1, ""), "9"}, {create("c", 1, ""), "9"}, {create("c/d", 1, ""), "9"}, {create("c/d/e/f", 1, ""), "9"},
		{create("c/f", 1, "f"), "0"}, {create("c/d/f", 1, "f"), "0"}, {create("c/d/e", 1, "f"), "8"}, {create("ab", 1, ""), "0"}, {create("c-", 1, ""), "0"},
	})
	if f.Now() != 7 || f.Used() != api.MaxObj+3 {
		t.Errorf("%d changes, %d bytes", f.Now(), f.Used())
	}
}

func TestWrite(t *testing.T) { // P5.2
	f := newFS(t, 100000)
	long := strings.Repeat("x", api.MaxObj)
	takeSteps(t, f, []step{
		{write("a", api.Plain, "x"), "0"}, {write("a", api.Exec, "yz"), "0"}, {read("a"), `2"yz"@20`}, {write("a", api.Link, ""), "0"}, {read("a"), `3""@30`},
		{write("c/d/e", api.Plain, long), "0"}, {write("c/d/e", api.Plain, "short"), "0"}, {read("c/d/e"), `1"short"@50`},
		{write("", 1, ""), "6"}, {write("a/", 1, ""), "6"}, {write("a", 0, ""), "1"}, {write("a", api.Dir, ""), "1"}, {write("a", -3, ""), "1"}, {write("a", 1, long+"x"), "3"},
		{write("a/b", 1, ""), "9"}, {write("c", 1, ""), "9"}, {write("c/d", 1, ""), "9"}, {write("c/d/e/f", 1, ""), "9"},
		{read("a"), `3""@30`}, {read("c/d/e"), `1"short"@50`},
	})
}

func TestMove(t *testing.T) { // P5.2
	for _, c := range []struct{ from, to, want, wantNew, files string }{
		{"a", "n", "0", "0", ` b:2"bb"@2 d/e:3"eee"@3 d/g/h:1"h"@4 n:1"a"@1`},
		{"a", "n/m", "0", "0", ` b:2"bb"@2 d/e:3"eee"@3 d/g/h:1"h"@4 n/m:1"a"@1`},
		{"a", "a/b/c", "0", "0", ` a/b/c:1"a"@1 b:2"bb"@2 d/e:3"eee"@3 d/g/h:1"h"@4`},
		{"d/g/h", "d/g", "0", "0", ` a:1"a"@1 b:2"bb"@2 d/e:3"eee"@3 d/g:1"h"@4`},
		{"d/g/h", "d/g/h/i/j", "0", "0", ` a:1"a"@1 b:2"bb"@2 d/e:3"eee"@3 d/g/h/i/j:1"h"@4`},
		{"a", "b", "0", "8", ` b:1"a"@1 d/e:3"eee"@3 d/g/h:1"h"@4`},
		{"d/e", "d/g/h", "0", "8", ` a:1"a"@1 b:2"bb"@2 d/g/h:3"eee"@3`},
		{"a", "a", "0", "8", ""}, {"d/e", "d/e", "0", "8", ""},
		{"a", "d", "9", "9", ""}, {"a", "d/g", "9", "9", ""}, {"a", "b/c", "9", "9", ""}, {"a", "d/e/f/g", "9", "9", ""}, {"d/e", "d", "9", "9", ""}, {"d/g/h", "d", "9", "9", ""}, {"d/e", "b/e", "9", "9", ""},
		{"n", "m", "7", "7", ""}, {"n", "a", "7", "7", ""}, {"n", "n", "7", "7", ""}, {"n", "d", "7", "7", ""}, {"d", "n", "7", "7", ""}, {"d", "d", "7", "7", ""}, {"a/b", "n", "7", "7", ""}, {"a/b", "a", "7", "7", ""},
		{"", "n", "6", "6", ""}, {"a", "", "6", "6", ""}, {"/a", "n", "6", "6", ""}, {"a", "a/", "6", "6", ""}, {"a", "n//m", "6", "6", ""}, {"n", "..", "6", "6", ""}, {"..", "..", "6", "6", ""}, {"", "", "6", "6", ""},
	} {
		for _, toNew := range []bool{false, true} {
			f := newFS(t, 7)
			takeSteps(t, f, []step{{create("a", 1, "a"), "0"}, {create("b", 2, "bb"), "0"}, {create("d/e", 3, "eee"), "0"}, {create("d/g/h", 1, "h"), "0"}})
			was, a, want := filesOf(f), move(c.from, c.to), c.want
			if toNew {
				a, want = moveNew(c.from, c.to), c.wantNew
			}
			files, now := was, 4
			if want == "0" && c.files != "" {
				files, now = c.files, 5
			}
			takeSteps(t, f, []step{{a, want}})
			if filesOf(f) != files || f.Now() != now || f.Pending() != now || f.Calls() != 5 {
				t.Errorf("%s: files%s, want%s; %d changes, want %d", a.name, filesOf(f), files, f.Now(), now)
			}
		}
	}
}

func TestRemove(t *testing.T) { // P5.2
	f := newFS(t, 100)
	takeSteps(t, f, []step{
		{remove("a"), "7"}, {create("a", 1, "x"), "0"}, {create("d/e", 1, "y"), "0"}, {remove("a"), "0"}, {remove("a"), "7"},
		{remove("d"), "7"}, {remove("d/e/f"), "7"}, {remove("D/e"), "7"}, {remove(""), "6"}, {remove("/"), "6"}, {remove("d/"), "6"}, {remove("d/.."), "6"}, {remove("d/e "), "6"},
		{create("d", 1, ""), "9"}, {remove("d/e"), "0"}, {create("d", 1, ""), "0"}, {create("d/e", 1, ""), "9"}, {remove("d"), "0"}, {create("d/e", 1, ""), "0"},
	})
	wantFiles(t, f, ` d/e:1""@7`)
}

// A path of many names is a directory as long as some file is Under it.
func TestDirectories(t *testing.T) { // P5.2, P5.7
	f := newFS(t, 100)
	takeSteps(t, f, []step{
		{create("a/b/c/d/e/f/g/h", 1, ""), "0"}, {create("a/b/x", 1, ""), "0"}, {create("a/b/c/d", 1, ""), "9"}, {create("a/b/c/d/e/f/g", 1, ""), "9"},
		{remove("a/b/c/d/e/f/g/h"), "0"}, {create("a/b", 1, ""), "9"}, {create("a", 1, ""), "9"}, {create("a/b/c/d", 1, ""), "0"}, {create("a/b/c/d/e", 1, ""), "9"},
		{write("a/b/c/d", 1, "w"), "0"}, {write("a/b/c/d", 1, "w"), "0"}, {remove("a/b/c/d"), "0"}, {create("a/b/c", 1, ""), "0"}, {move("a/b/c", "a/b/x"), "0"}, {create("a/b", 1, ""), "9"},
		{move("a/b/x", "a"), "0"}, {create("a/b", 1, ""), "9"}, {remove("a"), "0"}, {create("a/b", 1, ""), "0"},
	})
	wantFiles(t, f, ` a/b:1""@12`)
}

func TestRoom(t *testing.T) { // P5.2
	f := newFS(t, 10)
	takeSteps(t, f, []step{
		{create("a", 1, "12345678901"), "10"}, {create("a", 1, "1234567890"), "0"}, {create("b", 1, "1"), "10"}, {write("b", 1, "1"), "10"}, {create("b", 1, ""), "0"},
		{write("a", 1, "0987654321"), "0"}, {write("a", 1, "12345678901"), "10"}, {write("a", 1, "1234567"), "0"}, {write("b", 1, "1234"), "10"}, {write("b", 1, "123"), "0"},
		{create("c", 1, "1"), "10"}, {move("a", "b"), "0"}, {create("c", 1, "1234"), "10"}, {create("c", 1, "123"), "0"}, {remove("b"), "0"}, {write("d", 1, "1234567"), "0"},
		{userWrite("e", 1, "far above the room"), "0"}, {write("c", 1, ""), "10"}, {write("f", 1, ""), "10"}, {create("f", 1, ""), "10"}, {move("e", "c"), "0"},
		{write("d", 1, "1"), "10"}, {remove("d"), "0"}, {write("c", 1, "1234567890"), "0"},
	})
	wantFiles(t, f, ` c:1"1234567890"@13`)
	none := newFS(t, 0)
	takeSteps(t, none, []step{{create("a", 1, "x"), "10"}, {create("a", 1, ""), "0"}, {write("a", 2, ""), "0"}, {write("a", 2, "x"), "10"}, {move("a", "b"), "0"}})
	whole := newFS(t, 1<<30)
	takeSteps(t, whole, []step{{create("a", 1, strings.Repeat("x", api.MaxObj)), "0"}})
}

// Of several errors the one that is named first is answered.
func TestOrderOfErrors(t *testing.T) { // P5.2, P0.2
	long := strings.Repeat("x", api.MaxObj+1)
	f := newFS(t, 10)
	takeSteps(t, f, []step{
		{create("a", 1, "12345"), "0"}, {create("d/e", 1, "12345"), "0"},
		{create("/", 0, long), "6"}, {create("a", 0, long), "1"}, {create("a", 1, long), "3"}, {create("a/b", 1, long), "3"}, {create("d", 0, long), "1"}, {create("a", 1, "123"), "8"},
		{create("a/b", 1, "1"), "9"}, {create("d", 1, "1"), "9"}, {create("n", 1, "1"), "10"},
		{write("/", 0, long), "6"}, {write("a/b", 0, long), "1"}, {write("d", 1, long), "3"}, {write("d", 1, "1"), "9"}, {write("a", 1, "123456"), "10"},
		{userWrite("/", 0, long), "6"}, {userWrite("a/b", 0, long), "1"}, {userWrite("d", 1, long), "3"}, {userWrite("d", 1, "1"), "9"},
		{move("n", "/"), "6"}, {moveNew("n", "/"), "6"}, {move("n", "n"), "7"}, {moveNew("n", "a"), "7"}, {moveNew("n", "d"), "7"}, {moveNew("a", "a"), "8"},
	})
	kinds := []fsim.Event{{At: 1, Kind: fsim.NoRoom}, {At: 1, Kind: fsim.Broken}, {At: 1, Kind: fsim.Crashed, Keep: 9}}
	for n, want := range [][]string{{"6", "1", "3", "8", "9", "10", "10"}, {"11", "11", "11", "11", "11", "11", "11"}, {"12", "12", "12", "12", "12", "12", "12"}} {
		for i, a := range []act{create("/", 0, long), create("a", 0, long), create("a", 1, long), create("a", 1, "1"), create("d", 1, "1"), create("n", 1, ""), write("a", 1, "")} {
			c := f.Copy()
			takeSteps(t, c, []step{{plan([]fsim.Event{kinds[n], kinds[0], kinds[n/2]}), ""}, {a, want[i]}})
		}
	}
}

func TestEachCallCounts(t *testing.T) { // P5.2
	for _, a := range []act{read("a"), read("/"), list(""), list("/"), create("a", 1, ""), create("/", 1, ""), write("b", 1, ""), write("b", 0, ""), move("a", "b"), move("/", "b"), moveNew("a", "c"), moveNew("a", "/"), remove("a"), remove("/"), syncCall()} {
		f := newFS(t, 10)
		f.Create("a", 1, nil)
		a.do(f)
		f.Crash(0, 0)
		if got := a.do(f); !strings.HasSuffix(got, "12") || f.Calls() != 3 {
			t.Errorf("%s when it is down: %s, %d calls", a.name, got, f.Calls())
		}
		f.Reboot()
		f.Plan([]fsim.Event{{At: 4, Kind: fsim.Broken}})
		was := filesOf(f)
		if got := a.do(f); !strings.HasSuffix(got, "11") || f.Calls() != 4 || filesOf(f) != was || f.Pending() != 0 {
			t.Errorf("%s when it is broken: %s, %d calls, files%s", a.name, got, f.Calls(), filesOf(f))
		}
	}
}

func TestCallsMadeAtOnce(t *testing.T) { // P5.1 ('Ways': calls are counted by sync/atomic)
	const many, each = 8, 2000
	f := newFS(t, 10)
	f.Create("a", api.Plain, []byte("x"))
	var done sync.WaitGroup
	for range many {
		done.Go(func() {
			for range each {
				f.Read("a")
				f.List("/")
			}
		})
	}
	done.Wait()
	if f.Calls() != 1+2*many*each {
		t.Errorf("%d calls, want %d", f.Calls(), 1+2*many*each)
	}
}
