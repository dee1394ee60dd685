package fsim_test

import (
	"fmt"
	"math/rand"
	"strings"
	"testing"

	"marline/api"
	"marline/fsim"
)

// act does something to a file system and tells what that answered.
type act struct {
	name string
	do   func(s system) string
}

func errnoText(errno api.Errno) string { return fmt.Sprint(int(errno)) }

func create(path string, mode int, data string) act {
	return act{fmt.Sprintf("Create(%s, %d, %d bytes)", path, mode, len(data)), func(s system) string { return errnoText(s.Create(path, mode, []byte(data))) }}
}

func write(path string, mode int, data string) act {
	return act{fmt.Sprintf("Write(%s, %d, %d bytes)", path, mode, len(data)), func(s system) string { return errnoText(s.Write(path, mode, []byte(data))) }}
}

func userWrite(path string, mode int, data string) act {
	return act{fmt.Sprintf("UserWrite(%s, %d, %d bytes)", path, mode, len(data)), func(s system) string { return errnoText(s.UserWrite(path, mode, []byte(data))) }}
}

func move(from, to string) act {
	return act{fmt.Sprintf("Move(%s, %s)", from, to), func(s system) string { return errnoText(s.Move(from, to)) }}
}

func moveNew(from, to string) act {
	return act{fmt.Sprintf("MoveNew(%s, %s)", from, to), func(s system) string { return errnoText(s.MoveNew(from, to)) }}
}

func remove(path string) act {
	return act{"Remove(" + path + ")", func(s system) string { return errnoText(s.Remove(path)) }}
}

func userRemove(path string) act {
	return act{"UserRemove(" + path + ")", func(s system) string { return errnoText(s.UserRemove(path)) }}
}

func syncCall() act {
	return act{"Sync()", func(s system) string { return errnoText(s.Sync()) }}
}

func crash(keep, torn int) act {
	return act{fmt.Sprintf("Crash(%d, %d)", keep, torn), func(s system) string { s.Crash(keep, torn); return "" }}
}

func reboot() act {
	return act{"Reboot()", func(s system) string { s.Reboot(); return "" }}
}

func read(path string) act {
	return act{"Read(" + path + ")", func(s system) string {
		file, errno := s.Read(path)
		return fileText(file) + errnoText(errno)
	}}
}

func list(dir string) act {
	return act{"List(" + dir + ")", func(s system) string {
		l, errno := s.List(dir)
		return strings.Join(l, " ") + errnoText(errno)
	}}
}

func peek(path string) act {
	return act{"Peek(" + path + ")", func(s system) string {
		file, stands := s.Peek(path)
		return fmt.Sprint(fileText(file), stands)
	}}
}

// plan plans the events, each so many calls behind those that there were.
func plan(l []fsim.Event) act {
	return act{fmt.Sprintf("Plan(%v)", l), func(s system) string {
		events := append([]fsim.Event{}, l...)
		for i := range events {
			events[i].At += s.Calls()
		}
		s.Plan(events)
		return ""
	}}
}

// both is a file system and its model, and all that was done to them.
type both struct {
	t    *testing.T
	real *fsim.FS
	told *model
	done []string
}

func newBoth(t *testing.T, room int) *both {
	t.Helper()
	f, errno := fsim.New(room)
	if errno != api.OK {
		t.Fatalf("New(%d): %d", room, errno)
	}
	return &both{t: t, real: f, told: newModel(room)}
}

func (b *both) copied() *both {
	return &both{b.t, b.real.Copy(), b.told.copied(), append([]string{}, b.done...)}
}

func (b *both) do(a act) {
	b.t.Helper()
	b.done = append(b.done, a.name)
	got, want := a.do(b.real), a.do(b.told)
	if got != want {
		b.t.Fatalf("%s answered %s, want %s", strings.Join(b.done, ", "), got, want)
	}
	b.compare()
}

func (b *both) compare() {
	b.t.Helper()
	if got, want := told(b.real), told(b.told); got != want {
		b.t.Fatalf("behind %s:\n%s, want\n%s", strings.Join(b.done, ", "), got, want)
	}
}

// All short runs of these acts, and behind each of them every fall.
func TestAllShortRuns(t *testing.T) { // P5.1 to P5.5, P5.7
	acts := []act{
		create("a", 1, "x"), create("a/b", 2, "yy"), write("a", 2, "zzz"), write("a/c", 1, ""), write("b", 3, "wwww"),
		move("a", "b"), move("a", "a/b"), move("a/b", "a"), move("a/b", "a/c"), moveNew("a", "b"), moveNew("b", "a/c"), move("b", "b"), moveNew("b", "b"),
		remove("a"), remove("b"), syncCall(), userWrite("a", 1, "u"), userWrite("a/b", 1, "vwxyz"), userRemove("b"), read("a"), list("a"),
	}
	depth := 3
	if testing.Short() {
		depth = 2
	}
	runAll(newBoth(t, 6), acts, depth)
}

func runAll(b *both, acts []act, depth int) {
	for keep := -1; keep <= b.told.Pending()+1; keep++ {
		for torn := -1; torn <= 4; torn++ {
			fallen := b.copied()
			fallen.do(crash(keep, torn))
			fallen.do(reboot())
		}
	}
	if depth == 0 {
		return
	}
	for _, a := range acts {
		next := b.copied()
		next.do(a)
		runAll(next, acts, depth-1)
	}
	b.compare() // what was done to the copies is not seen here
}

func randomPath(r *rand.Rand) string {
	if r.Intn(25) == 0 {
		return []string{"", "/", "a/", "a//b", "..", "a b", "a/../b", strings.Repeat("x", 65), strings.Repeat("a/", 8) + "a"}[r.Intn(9)]
	}
	return []string{"a", "b", "ab", "a/b", "a/c", "a/b/c", "b/a/d/e", "a.b", "ab/c", strings.Repeat("a/", 7) + "a"}[r.Intn(10)]
}

func randomMode(r *rand.Rand) int {
	if r.Intn(25) == 0 {
		return []int{0, -1, 4, 5, 1 << 40, -1 << 63}[r.Intn(6)]
	}
	return 1 + r.Intn(3)
}

func randomData(r *rand.Rand) string {
	if r.Intn(40) == 0 {
		return strings.Repeat("x", 19999+r.Intn(3))
	}
	return "abcdefghijklm"[:r.Intn(14)]
}

func randomTimes(r *rand.Rand) int {
	if r.Intn(10) == 0 {
		return []int{-1 << 63, 1<<63 - 1, -7, 1000}[r.Intn(4)]
	}
	return r.Intn(8) - 1
}

func randomPlan(r *rand.Rand) []fsim.Event {
	l := make([]fsim.Event, r.Intn(9))
	for i := range l {
		l[i] = fsim.Event{
			At: r.Intn(12) - 2, Kind: r.Intn(8) - 1, Mode: randomMode(r), Keep: randomTimes(r), Torn: randomTimes(r),
			Path: randomPath(r), Data: []byte(randomData(r)),
		}
		if l[i].Kind == fsim.Crashed && r.Intn(2) == 0 {
			l[i].Kind = fsim.Wrote
		}
	}
	return l
}

func randomAct(r *rand.Rand) act {
	path, other, mode, data := randomPath(r), randomPath(r), randomMode(r), randomData(r)
	switch r.Intn(30) {
	case 0, 1, 2, 3:
		return create(path, mode, data)
	case 4, 5, 6, 7, 8:
		return write(path, mode, data)
	case 9, 10, 11, 12:
		return move(path, other)
	case 13, 14, 15:
		return moveNew(path, other)
	case 16, 17:
		return remove(path)
	case 18:
		return syncCall()
	case 19:
		return userWrite(path, mode, data)
	case 20:
		return userRemove(path)
	case 21:
		return crash(randomTimes(r), randomTimes(r))
	case 22, 23:
		return reboot()
	case 24:
		return plan(randomPlan(r))
	case 25, 26:
		return read(path)
	case 27:
		return list([]string{path, ""}[r.Intn(2)])
	}
	return peek(path)
}

// What is done to a file system is not seen in its copy, nor the other way
// round.
func TestRandomRuns(t *testing.T) { // P5.1 to P5.5, P5.7
	runs := 1500
	if testing.Short() {
		runs = 150
	}
	r := rand.New(rand.NewSource(51))
	for range runs {
		b := newBoth(t, []int{0, 20, 60, 20030, 1 << 30}[r.Intn(5)])
		others := []*both{b}
		for range 60 {
			if r.Intn(20) == 0 {
				others = append(others, b.copied())
			}
			b = others[r.Intn(len(others))]
			b.do(randomAct(r))
		}
		for _, other := range others {
			other.compare()
		}
	}
}
