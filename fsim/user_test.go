package fsim_test

import (
	"strings"
	"testing"

	"marline/api"
	"marline/fsim"
)

func TestUserWrite(t *testing.T) { // P5.3
	f := newFS(t, 3)
	long := strings.Repeat("x", api.MaxObj)
	takeSteps(t, f, []step{
		{create("a", 1, "abc"), "0"}, {userWrite("b", 3, "more than room"), "0"}, {userWrite("a", 2, "A"), "0"}, {userWrite("c/d", 1, long), "0"}, {userWrite("c/d", 1, ""), "0"},
		{userWrite("", 1, ""), "6"}, {userWrite("a//b", 1, ""), "6"}, {userWrite("a", 0, ""), "1"}, {userWrite("a", api.Dir, ""), "1"}, {userWrite("a", 1, long+"x"), "3"},
		{userWrite("a/b", 1, ""), "9"}, {userWrite("c", 1, ""), "9"}, {userWrite("c/d/e", 1, ""), "9"},
	})
	wantFiles(t, f, ` a:2"A"@3 b:3"more than room"@2 c/d:1""@5`)
	if f.Calls() != 1 || f.Now() != 5 || f.Pending() != 0 || f.Used() != 15 {
		t.Errorf("%s", told(f))
	}
}

func TestUserRemove(t *testing.T) { // P5.3
	f := newFS(t, 10)
	takeSteps(t, f, []step{
		{create("a", 1, "abc"), "0"}, {create("d/e", 1, "x"), "0"}, {userRemove("b"), "7"}, {userRemove("d"), "7"}, {userRemove("a/b"), "7"}, {userRemove(""), "6"}, {userRemove("/a"), "6"},
	})
	if f.Pending() != 2 || f.Now() != 2 || len(f.User()) != 0 {
		t.Errorf("what a user did not do shows: %s", told(f))
	}
	takeSteps(t, f, []step{{userRemove("a"), "0"}, {userRemove("a"), "7"}})
	wantFiles(t, f, ` d/e:1"x"@2`)
	if f.Calls() != 2 || f.Now() != 3 || f.Pending() != 0 || f.Used() != 1 {
		t.Errorf("%s", told(f))
	}
}

// With what a user did all that went ahead is durable; with what failed
// nothing is.
func TestWhatUsersMakeDurable(t *testing.T) { // P5.3
	for _, c := range []struct {
		act     act
		pending int
		files   string
	}{
		{userWrite("u", 1, "u"), 0, ` b:1"two"@2 u:1"u"@4`}, {userWrite("b", 2, "u"), 0, ` b:2"u"@4`}, {userRemove("b"), 0, ""},
		{userWrite("b/c", 1, "u"), 2, ` a:1"one"@1`}, {userWrite("b", 4, "u"), 2, ` a:1"one"@1`}, {userWrite("", 1, "u"), 2, ` a:1"one"@1`}, {userRemove("a"), 2, ` a:1"one"@1`}, {userRemove("b/"), 2, ` a:1"one"@1`},
	} {
		f := newFS(t, 10)
		takeSteps(t, f, []step{{create("a", 1, "one"), "0"}, {syncCall(), "0"}, {create("b", 1, "two"), "0"}, {remove("a"), "0"}})
		c.act.do(f)
		if f.Pending() != c.pending {
			t.Errorf("behind %s: %d pending, want %d", c.act.name, f.Pending(), c.pending)
		}
		f.Crash(0, -1)
		if filesOf(f) != c.files {
			t.Errorf("behind %s and a crash: files%s, want%s", c.act.name, filesOf(f), c.files)
		}
	}
}

func TestUser(t *testing.T) { // P5.5
	f := newFS(t, 10)
	f.Plan([]fsim.Event{
		{At: 2, Kind: fsim.Wrote, Path: "p", Mode: 2, Data: []byte("planned"), Keep: 7, Torn: 8}, {At: 2, Kind: fsim.Wrote, Path: "p/q", Mode: 2},
		{At: 3, Kind: fsim.Removed, Path: "p", Mode: 3, Data: []byte("x"), Keep: 7, Torn: 8}, {At: 3, Kind: fsim.Removed, Path: "p"}, {At: 3, Kind: fsim.Broken},
	})
	takeSteps(t, f, []step{
		{userWrite("a", 1, "x"), "0"}, {syncCall(), "0"}, {userRemove("a"), "0"}, {userRemove("a"), "7"}, {userWrite("a", 0, "x"), "1"},
		{read("p"), `2"planned"@30`}, {syncCall(), "11"}, {userWrite("b/c", 3, ""), "0"}, {crash(0, 0), ""}, {userWrite("b/c", 3, ""), "12"}, {reboot(), ""}, {userWrite("b/c", 3, "again"), "0"},
	})
	_, want, _ := strings.Cut(told(f), "; user")
	if want != ` 0/4/1/0/0/a/"x" 1/5/0/0/0/a/"" 2/4/2/0/0/p/"planned" 3/5/0/0/0/p/"" 3/4/3/0/0/b/c/"" 3/4/3/0/0/b/c/"again"` {
		t.Errorf("User() has%s", want)
	}
}
