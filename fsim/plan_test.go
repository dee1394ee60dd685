package fsim_test

import (
	"math"
	"testing"

	"marline/api"
	"marline/fsim"
)

func TestEventsHappenAheadOfTheirCall(t *testing.T) { // P5.2
	f := newFS(t, 5)
	f.Plan([]fsim.Event{
		{At: 3, Kind: fsim.Broken}, {At: 2, Kind: fsim.NoRoom}, {At: 9, Kind: fsim.Crashed, Keep: 1, Torn: 1}, {At: 5, Kind: fsim.Removed, Path: "u"},
		{At: 4, Kind: fsim.Wrote, Path: "u", Mode: api.Exec, Data: []byte("longer than room")}, {At: 4, Kind: fsim.Wrote, Path: "u/v", Mode: api.Plain}, {At: 6, Kind: fsim.Removed, Path: "none"},
	})
	takeSteps(t, f, []step{
		{write("a", 1, "one"), "0"}, {write("a", 1, ""), "10"}, {write("a", 1, ""), "11"}, {read("u"), `2"longer than room"@20`}, {read("u"), `0""@07`}, {write("a", 1, "six"), "0"},
		{write("b", 1, "xy"), "0"}, {list(""), "a b0"}, {remove("a"), "12"}, {read("a"), `0""@012`}, {reboot(), ""}, {list(""), "a b0"}, {read("b"), `1"x"@50`}, {read("a"), `1"six"@40`},
	})
}

// A NoRoom is of Create and Write alone, and behind their other errors.
func TestNoRoom(t *testing.T) { // P5.2
	f := newFS(t, 100)
	f.Create("a", 1, []byte("x"))
	f.Create("b", 1, nil)
	for _, s := range []step{
		{create("n", 1, ""), "10"}, {write("n", 1, ""), "10"}, {write("a", 1, ""), "10"}, {write("a", 1, "x"), "10"}, {create("a", 1, ""), "8"}, {create("a/b", 1, ""), "9"}, {write("a/b", 1, ""), "9"}, {write("a", 0, ""), "1"}, {create("/", 1, ""), "6"},
		{read("a"), `1"x"@10`}, {list(""), "a b0"}, {move("a", "n"), "0"}, {moveNew("a", "n"), "0"}, {move("a", "b"), "0"}, {remove("a"), "0"}, {syncCall(), "0"}, {move("a", "a"), "0"},
	} {
		c := f.Copy()
		takeSteps(t, c, []step{{plan([]fsim.Event{{At: 1, Kind: fsim.NoRoom}}), ""}, s, {create("later", 1, "x"), "0"}})
		c = f.Copy() // a user has all room, whatever is planned for the call
		takeSteps(t, c, []step{{plan([]fsim.Event{{At: 1, Kind: fsim.NoRoom}, {At: 1, Kind: fsim.Wrote, Path: "u", Mode: 1, Data: []byte("u")}}), ""}, {create("n", 1, ""), "10"}, {read("u"), `1"u"@30`}})
	}
}

func TestEventsOfOneCallInThePlansOrder(t *testing.T) { // P5.2
	wrote := func(data string) fsim.Event {
		return fsim.Event{At: 1, Kind: fsim.Wrote, Path: "a", Mode: 1, Data: []byte(data)}
	}
	removed, crashed, broken := fsim.Event{At: 1, Kind: fsim.Removed, Path: "a"}, fsim.Event{At: 1, Kind: fsim.Crashed, Torn: -1}, fsim.Event{At: 1, Kind: fsim.Broken}
	for i, c := range []struct {
		l     []fsim.Event
		want  string
		files string
	}{
		{[]fsim.Event{wrote("1"), wrote("2"), wrote("3")}, "0", ` a:1"3"@4 p:1"pending"@1`},
		{[]fsim.Event{wrote("1"), removed}, "0", ` p:1"pending"@1`}, {[]fsim.Event{removed, wrote("1")}, "0", ` a:1"1"@2 p:1"pending"@1`},
		{[]fsim.Event{wrote("1"), crashed, removed}, "12", ` a:1"1"@2 p:1"pending"@1`}, {[]fsim.Event{crashed, wrote("1")}, "12", ""},
		{[]fsim.Event{broken, wrote("1"), removed, wrote("2")}, "11", ` a:1"2"@4 p:1"pending"@1`}, {[]fsim.Event{wrote("1"), broken}, "11", ` a:1"1"@2 p:1"pending"@1`},
		{[]fsim.Event{broken, crashed}, "12", ""}, {[]fsim.Event{crashed, broken}, "12", ""}, {[]fsim.Event{crashed, {At: 1, Kind: fsim.Crashed, Keep: 1}}, "12", ""}, {[]fsim.Event{{At: 1, Kind: fsim.Crashed, Keep: 1}, crashed}, "12", ` p:1"pending"@1`},
		{[]fsim.Event{{At: 1, Kind: fsim.Crashed, Torn: 4}}, "12", ` p:1"pend"@1`},
	} {
		for range 2 { // the second time with events of other calls between them
			f := newFS(t, 10)
			f.Create("p", 1, []byte("pending"))
			takeSteps(t, f, []step{{plan(c.l), ""}, {syncCall(), c.want}})
			if filesOf(f) != c.files {
				t.Errorf("case %d: files%s, want%s", i, filesOf(f), c.files)
			}
			var mixed []fsim.Event
			for n, e := range c.l {
				mixed = append(mixed, fsim.Event{At: 2 + (n*7)%3, Kind: fsim.Broken}, e, fsim.Event{At: -n, Kind: fsim.Crashed})
			}
			c.l = mixed
		}
	}
}

func TestEventsThatNeverHappen(t *testing.T) { // P5.1, P5.2
	f := newFS(t, 10)
	f.Sync()
	f.Sync()
	var l []fsim.Event
	for _, at := range []int{math.MinInt, -1, 0, 1, 2, math.MaxInt, 1 << 32, 1<<32 + 3} {
		for kind := 1; kind <= 5; kind++ {
			l = append(l, fsim.Event{At: at, Kind: kind, Path: "u", Mode: 1})
		}
	}
	for _, kind := range []int{0, -1, 6, 99, math.MinInt, math.MaxInt, 1<<32 + 1} {
		l = append(l, fsim.Event{At: 3, Kind: kind, Path: "u", Mode: 1}, fsim.Event{At: 4, Kind: kind, Path: "u", Mode: 1})
	}
	f.Plan(l)
	takeSteps(t, f, []step{{list(""), "0"}, {create("a", 1, ""), "0"}, {syncCall(), "0"}, {list(""), "a0"}})
	if !f.Up() || len(f.User()) != 0 || f.Now() != 1 {
		t.Errorf("%s", told(f))
	}
}

func TestAPlanTakesThePlaceOfTheOneAhead(t *testing.T) { // P5.1
	f := newFS(t, 10)
	f.Plan([]fsim.Event{{At: 1, Kind: fsim.Broken}, {At: 2, Kind: fsim.Broken}, {At: 3, Kind: fsim.Crashed}})
	takeSteps(t, f, []step{{syncCall(), "11"}})
	f.Plan([]fsim.Event{{At: 4, Kind: fsim.Broken}, {At: 1, Kind: fsim.Broken}})
	takeSteps(t, f, []step{{syncCall(), "0"}, {syncCall(), "0"}, {syncCall(), "11"}, {syncCall(), "0"}})
	f.Plan([]fsim.Event{{At: 6, Kind: fsim.Broken}, {At: 7, Kind: fsim.Broken}})
	f.Plan(nil)
	takeSteps(t, f, []step{{syncCall(), "0"}, {syncCall(), "0"}})
	f.Plan([]fsim.Event{{At: 8, Kind: fsim.Broken}, {At: 9, Kind: fsim.Broken}})
	takeSteps(t, f, []step{{syncCall(), "11"}})
	f.Plan([]fsim.Event{})
	takeSteps(t, f, []step{{syncCall(), "0"}})
	f.Plan([]fsim.Event{{At: 10, Kind: fsim.Broken}, {At: 11, Kind: fsim.Broken}})
	f.Crash(0, 0)
	f.Reboot()
	takeSteps(t, f, []step{{syncCall(), "11"}, {userWrite("a", 1, ""), "0"}, {peek("a"), `1""@1true`}, {syncCall(), "11"}})
}

// No users' act and nothing but the eight calls counts as a call that events
// happen ahead of.
func TestEventsAreOfCallsAlone(t *testing.T) { // P5.2, P5.5
	f := newFS(t, 10)
	f.Plan([]fsim.Event{{At: 1, Kind: fsim.Broken}})
	takeSteps(t, f, []step{{userWrite("a", 1, ""), "0"}, {userRemove("a"), "0"}, {peek("a"), `0""@0false`}, {crash(0, 0), ""}, {reboot(), ""}})
	f.Paths()
	f.User()
	f = f.Copy()
	if f.Calls() != 0 {
		t.Errorf("%d calls", f.Calls())
	}
	takeSteps(t, f, []step{{read("a"), `0""@011`}, {read("a"), `0""@07`}})
}

func TestManyEventsAndFiles(t *testing.T) { // P5.2, P0.1
	f := newFS(t, 1<<30)
	const many = 20000
	l := make([]fsim.Event, many)
	for i := range l {
		l[i] = fsim.Event{At: many - i, Kind: fsim.Wrote, Path: pathOf(i), Mode: 1, Data: []byte{byte(i)}}
	}
	f.Plan(l)
	for i := range many {
		if errno := f.Create("created/"+pathOf(i), 2, nil); errno != api.OK {
			t.Fatalf("Create %d: %d", i, errno)
		}
	}
	if f.Used() != many || f.Now() != 2*many || f.Calls() != many || len(f.Paths()) != 2*many || len(f.User()) != many {
		t.Errorf("%d bytes, %d changes, %d calls, %d paths, %d users' acts", f.Used(), f.Now(), f.Calls(), len(f.Paths()), len(f.User()))
	}
	if file, stands := f.Peek(pathOf(many - 1)); !stands || file.Time != 1 || len(file.Data) != 1 {
		t.Errorf("%+v, %v", file, stands)
	}
}

// pathOf is a path of its own for each number.
func pathOf(i int) string {
	return string([]byte{'a' + byte(i%26), '/', 'a' + byte(i/26%26), '/', 'a' + byte(i/676%26), '/', 'a' + byte(i/17576%26)})
}
