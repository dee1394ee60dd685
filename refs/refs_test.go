package refs_test

import (
	"crypto/sha256"
	"encoding/hex"
	"slices"
	"strconv"
	"strings"
	"testing"

	"marline/api"
	"marline/fsim"
	"marline/refs"
)

func idOf(text string) string {
	sum := sha256.Sum256([]byte(text))
	return hex.EncodeToString(sum[:])
}

func newFS(t *testing.T, room int) *fsim.FS {
	t.Helper()
	f, errno := fsim.New(room)
	if errno != api.OK {
		t.Fatalf("New(%d): %d", room, errno)
	}
	return f
}

// withFiles is a file system with these files: paths, and what is in them.
func withFiles(t *testing.T, room int, files ...string) *fsim.FS {
	t.Helper()
	f := newFS(t, room)
	for i := 0; i < len(files); i += 2 {
		if errno := f.UserWrite(files[i], api.Plain, []byte(files[i+1])); errno != api.OK {
			t.Fatalf("UserWrite(%q): %d", files[i], errno)
		}
	}
	return f
}

func wantGet(t *testing.T, f *fsim.FS, name, want string, wantErrno api.Errno) {
	t.Helper()
	if id, errno := refs.Get(f, name); id != want || errno != wantErrno {
		t.Errorf("Get(%q) = %q, %d, want %q, %d", name, id, errno, want, wantErrno)
	}
}

func wantSet(t *testing.T, f *fsim.FS, name, old, new string, want api.Errno) {
	t.Helper()
	if errno := refs.Set(f, name, old, new); errno != want {
		t.Errorf("Set(%q, %q, %q) = %d, want %d", name, old, new, errno, want)
	}
}

func wantDelete(t *testing.T, f *fsim.FS, name, old string, want api.Errno) {
	t.Helper()
	if errno := refs.Delete(f, name, old); errno != want {
		t.Errorf("Delete(%q, %q) = %d, want %d", name, old, errno, want)
	}
}

func wantList(t *testing.T, f *fsim.FS, want ...string) {
	t.Helper()
	if l, errno := refs.List(f); !slices.Equal(l, want) || errno != api.OK {
		t.Errorf("List() = %q, %d, want %q", l, errno, want)
	}
}

func wantUnlock(t *testing.T, f *fsim.FS, want int, wantErrno api.Errno) {
	t.Helper()
	if n, errno := refs.Unlock(f); n != want || errno != wantErrno {
		t.Errorf("Unlock() = %d, %d, want %d, %d", n, errno, want, wantErrno)
	}
}

func wantFiles(t *testing.T, f *fsim.FS, want string) {
	t.Helper()
	if got := filesOf(f); got != want {
		t.Errorf("files%s, want%s", got, want)
	}
}

func wantCalls(t *testing.T, f *fsim.FS, want int) {
	t.Helper()
	if f.Calls() != want {
		t.Errorf("%d calls, want %d", f.Calls(), want)
	}
}

func text(id string) string { return id + "\n" }

func broken(at ...int) []fsim.Event {
	var l []fsim.Event
	for _, n := range at {
		l = append(l, fsim.Event{At: n, Kind: fsim.Broken})
	}
	return l
}

func TestExamples(t *testing.T) { // P8.1, P8.2
	f := newFS(t, 1000)
	wantSet(t, f, "head", "", idOf("A"), api.OK)
	wantSet(t, f, "head", "", idOf("B"), api.ErrLock)
	wantGet(t, f, "head", idOf("A"), api.OK)
	wantFiles(t, f, ` s/r/head:1"`+idOf("A")+`\n"@1`)
}

func TestGet(t *testing.T) { // P8.1
	f := newFS(t, 10000)
	wantGet(t, f, "head", "", api.ErrNone)
	for i, name := range someNames() {
		for mode := api.Plain; mode <= api.Link; mode++ {
			for _, id := range someHashes() {
				f.UserWrite("s/r/"+name, mode, []byte(text(id)))
				calls := f.Calls()
				wantGet(t, f, name, id, api.OK)
				wantCalls(t, f, calls+1)
			}
		}
		wantList(t, f, slices.Sorted(slices.Values(someNames()[:i+1]))...)
	}
	f.UserWrite("s/l/locked", api.Plain, []byte(text(idOf("a"))))
	wantGet(t, f, "locked", "", api.ErrNone)
	f.UserWrite("s/r/d/e", api.Plain, []byte(text(idOf("a"))))
	wantGet(t, f, "d", "", api.ErrNone)
	wantGet(t, f, "e", "", api.ErrNone)
}

// What is locked can be got: a lock says nothing of what the ref is now.
func TestGetOfWhatIsLocked(t *testing.T) { // P8.1
	f := withFiles(t, 1000, "s/r/head", text(idOf("a")), "s/l/head", text(idOf("b")))
	wantGet(t, f, "head", idOf("a"), api.OK)
	wantCalls(t, f, 1)
}

func TestWhatIsNoRef(t *testing.T) { // P8.1, P8.2, P8.3
	for _, there := range badTexts() {
		f := withFiles(t, 1000, "s/r/head", there)
		files := filesOf(f)
		wantGet(t, f, "head", "", api.ErrForm)
		wantSet(t, f, "head", "", idOf("b"), api.ErrLock)
		wantDelete(t, f, "head", idOf("a"), api.ErrLock)
		wantSet(t, f, "head", idOf("a"), idOf("b"), api.ErrLock)
		wantList(t, f, "head")
		wantFiles(t, f, files)
	}
}

func TestWhatIsNoName(t *testing.T) { // P8.1, P8.2, P8.3
	f := withFiles(t, 10000, "s/r/a/b", text(idOf("a")), "s/head", text(idOf("a")))
	for _, down := range []bool{false, true} {
		if down {
			f.Crash(0, 0)
		}
		want := told(f)
		for _, name := range notNames() {
			wantGet(t, f, name, "", api.ErrName)
			wantSet(t, f, name, "", idOf("a"), api.ErrName)
			wantSet(t, f, name, "x", "", api.ErrName)
			wantDelete(t, f, name, idOf("a"), api.ErrName)
			wantDelete(t, f, name, "", api.ErrName)
		}
		if told(f) != want {
			t.Errorf("%s, was %s", told(f), want)
		}
	}
}

func TestWhatIsNoHash(t *testing.T) { // P8.2, P8.3
	f := withFiles(t, 1000, "s/r/head", text(idOf("a")))
	for _, down := range []bool{false, true} {
		if down {
			f.Crash(0, 0)
		}
		want := told(f)
		for _, id := range append(notHashes(), "") {
			wantSet(t, f, "head", idOf("a"), id, api.ErrRange)
			wantSet(t, f, "other", "", id, api.ErrRange)
			wantDelete(t, f, "head", id, api.ErrRange)
			if id != "" {
				wantSet(t, f, "head", id, idOf("b"), api.ErrRange)
				wantSet(t, f, "other", id, idOf("b"), api.ErrRange)
				wantSet(t, f, "other", id, id, api.ErrRange)
			}
		}
		if told(f) != want {
			t.Errorf("%s, was %s", told(f), want)
		}
	}
	wantSet(t, f, "head", "", idOf("b"), api.ErrDown)
	wantSet(t, f, "head", idOf("a"), idOf("b"), api.ErrDown)
	wantDelete(t, f, "head", idOf("a"), api.ErrDown)
}

// What stands there ahead of each call of a Set, and behind the last one.
func TestSetByCalls(t *testing.T) { // P8.2
	a, b := idOf("a"), idOf("b")
	lock := ` s/l/head:1"` + b + `\n"@2`
	was := ` s/r/head:1"` + a + `\n"@1`
	now := ` s/r/head:1"` + b + `\n"@2`
	for i, want := range []string{was, lock + was, lock + was, lock + was, now, now} {
		f := withFiles(t, 1000, "s/r/head", text(a))
		f.Plan([]fsim.Event{{At: i + 1, Kind: fsim.Crashed, Keep: 9}})
		refs.Set(f, "head", a, b)
		wantFiles(t, f, want)
	}
	// What is durable ahead of each call: the lock from the fourth one on.
	for i, want := range []string{was, was, was, lock + was, lock + was, now} {
		f := withFiles(t, 1000, "s/r/head", text(a))
		f.Plan([]fsim.Event{{At: i + 1, Kind: fsim.Crashed, Torn: -1}})
		refs.Set(f, "head", a, b)
		f.Crash(0, -1)
		wantFiles(t, f, want)
	}
}

func TestSetOfMany(t *testing.T) { // P8.1, P8.2
	f := newFS(t, 10000)
	for i, name := range someNames() {
		old := ""
		for j, id := range append(someHashes(), someHashes()...) {
			calls := f.Calls()
			wantSet(t, f, name, old, id, api.OK)
			wantCalls(t, f, calls+5)
			if f.Pending() != 0 || f.Now() != 20*i+2*j+2 {
				t.Errorf("%d pending, %d changes", f.Pending(), f.Now())
			}
			wantGet(t, f, name, id, api.OK)
			old = id
		}
	}
	last := someHashes()[4]
	for _, name := range someNames() {
		wantGet(t, f, name, last, api.OK)
		wantSet(t, f, name, last, last, api.OK)
		wantGet(t, f, name, last, api.OK)
	}
	if l, _ := f.List("s/l"); len(l) > 0 {
		t.Errorf("locks stand: %q", l)
	}
}

// An old hash that does not stand there: it is not set, and not locked.
func TestSetOfAnother(t *testing.T) { // P8.2
	a, b, c := idOf("a"), idOf("b"), idOf("c")
	f := withFiles(t, 1000, "s/r/head", text(a))
	for i, old := range []string{b, c, "", a[:63] + "0"} {
		wantSet(t, f, "head", old, c, api.ErrLock)
		wantFiles(t, f, ` s/r/head:1"`+a+`\n"@1`)
		wantCalls(t, f, 3*(i+1))
	}
	wantSet(t, f, "other", a, c, api.ErrLock)
	wantFiles(t, f, ` s/r/head:1"`+a+`\n"@1`)
	wantCalls(t, f, 15)
	if f.Pending() != 10 {
		t.Errorf("%d pending: synced beside an error", f.Pending())
	}
}

// The mode of what stands there says nothing; it is Plain behind a Set.
func TestSetOverOtherModes(t *testing.T) { // P8.2
	for mode := api.Plain; mode <= api.Link; mode++ {
		f := newFS(t, 1000)
		f.UserWrite("s/r/head", mode, []byte(text(idOf("a"))))
		wantSet(t, f, "head", idOf("a"), idOf("b"), api.OK)
		wantFiles(t, f, ` s/r/head:1"`+idOf("b")+`\n"@2`)
	}
}

func TestSetOfWhatIsLocked(t *testing.T) { // P8.2
	for _, there := range []string{"", "part", text(idOf("a")), text(idOf("b"))} {
		f := withFiles(t, 1000, "s/r/head", text(idOf("a")), "s/l/head", there, "s/l/other", there)
		files := filesOf(f)
		wantSet(t, f, "head", idOf("a"), idOf("b"), api.ErrLock)
		wantSet(t, f, "head", "", idOf("b"), api.ErrLock)
		wantSet(t, f, "other", "", idOf("b"), api.ErrLock)
		wantCalls(t, f, 3)
		wantFiles(t, f, files)
		wantSet(t, f, "free", "", idOf("b"), api.OK)
		wantUnlock(t, f, 2, api.OK)
		wantSet(t, f, "head", idOf("a"), idOf("b"), api.OK)
		wantGet(t, f, "head", idOf("b"), api.OK)
	}
}

// Each error of a Set, how many calls it has made by then, and what stands.
func TestErrorsOfSet(t *testing.T) { // P8.2
	a, b := idOf("a"), idOf("b")
	head := []string{"s/r/head", text(a)}
	was := ` s/r/head:1"` + a + `\n"@1`
	lock := ` s/l/head:1"` + b + `\n"@2`
	fall := func(at, keep int) []fsim.Event { return []fsim.Event{{At: at, Kind: fsim.Crashed, Keep: keep}} }
	for name, c := range map[string]struct {
		room  int
		there []string
		old   string
		plan  []fsim.Event
		want  api.Errno
		calls int
		files string
	}{
		"broken Create":             {999, head, a, broken(1), api.ErrIO, 1, was},
		"broken Read":               {999, head, a, broken(2), api.ErrIO, 3, was},
		"broken Read, Remove":       {999, head, a, broken(2, 3), api.ErrIO, 3, lock + was},
		"broken Read of nothing":    {999, nil, "", broken(2), api.ErrIO, 3, ""},
		"another, broken Remove":    {999, head, idOf("c"), broken(3), api.ErrLock, 3, lock + was},
		"there, broken Remove":      {999, head, "", broken(3), api.ErrLock, 3, lock + was},
		"broken Sync":               {999, head, a, broken(3), api.ErrIO, 4, was},
		"broken Sync, Remove":       {999, head, a, broken(3, 4), api.ErrIO, 4, lock + was},
		"broken Move":               {999, head, a, broken(4), api.ErrIO, 4, lock + was},
		"broken Move and behind it": {999, head, a, broken(4, 5), api.ErrIO, 4, lock + was},
		"broken last Sync":          {999, head, a, broken(5), api.ErrIO, 5, ` s/r/head:1"` + b + `\n"@2`},
		"broken behind it":          {999, head, a, broken(6), api.OK, 5, ` s/r/head:1"` + b + `\n"@2`},
		"falls at Create":           {999, head, a, fall(1, 9), api.ErrDown, 1, was},
		"falls at Read":             {999, head, a, fall(2, 9), api.ErrDown, 3, lock + was},
		"falls at Sync":             {999, head, a, fall(3, 9), api.ErrDown, 4, lock + was},
		"falls at Move":             {999, head, a, fall(4, 9), api.ErrDown, 4, lock + was},
		"falls at last Sync":        {999, head, a, fall(5, 0), api.ErrDown, 5, lock + was},
		"falls, and keeps it":       {999, head, a, fall(5, 1), api.ErrDown, 5, ` s/r/head:1"` + b + `\n"@2`},
		"no room":                   {129, head, a, nil, api.ErrFull, 1, was},
		"just room":                 {130, head, a, nil, api.OK, 5, ` s/r/head:1"` + b + `\n"@2`},
		"NoRoom at Create":          {999, head, a, []fsim.Event{{At: 1, Kind: fsim.NoRoom}}, api.ErrFull, 1, was},
		"NoRoom at Move":            {999, head, a, []fsim.Event{{At: 4, Kind: fsim.NoRoom}}, api.OK, 5, ` s/r/head:1"` + b + `\n"@2`},
		"a file at s":               {999, []string{"s", ""}, "", nil, api.ErrDir, 1, ` s:1""@1`},
		"a file at s/l":             {999, []string{"s/l", ""}, "", nil, api.ErrDir, 1, ` s/l:1""@1`},
		"a file below the lock":     {999, []string{"s/l/head/x", ""}, "", nil, api.ErrDir, 1, ` s/l/head/x:1""@1`},
		"a file at s/r":             {999, []string{"s/r", ""}, "", nil, api.ErrDir, 4, lock + ` s/r:1""@1`},
		"a file below the ref":      {999, []string{"s/r/head/x", ""}, "", nil, api.ErrDir, 4, lock + ` s/r/head/x:1""@1`},
	} {
		t.Run(name, func(t *testing.T) {
			f := withFiles(t, c.room, c.there...)
			f.Plan(c.plan)
			wantSet(t, f, "head", c.old, b, c.want)
			wantCalls(t, f, c.calls)
			wantFiles(t, f, c.files)
		})
	}
}

func TestDelete(t *testing.T) { // P8.3
	a, b := idOf("a"), idOf("b")
	f := withFiles(t, 1000, "s/r/head", text(a), "s/r/other", text(a), "s/l/head", text(b))
	files := filesOf(f)
	wantDelete(t, f, "head", b, api.ErrLock)
	wantDelete(t, f, "none", a, api.ErrNone)
	wantDelete(t, f, "d", a, api.ErrNone)
	wantFiles(t, f, files)
	wantCalls(t, f, 3)
	wantDelete(t, f, "head", a, api.OK) // locked or not
	wantCalls(t, f, 6)
	if f.Pending() != 0 {
		t.Errorf("%d pending", f.Pending())
	}
	wantGet(t, f, "head", "", api.ErrNone)
	wantGet(t, f, "other", a, api.OK)
	wantDelete(t, f, "head", a, api.ErrNone)
	wantUnlock(t, f, 1, api.OK)
	wantSet(t, f, "head", "", b, api.OK)
	wantDelete(t, f, "head", a, api.ErrLock)
	wantDelete(t, f, "head", b, api.OK)
	f.Crash(0, 0)
	f.Reboot()
	wantList(t, f, "other")
}

func TestErrorsOfDelete(t *testing.T) { // P8.3
	a := idOf("a")
	was := ` s/r/head:2"` + a + `\n"@1`
	for i, c := range []struct {
		plan  []fsim.Event
		want  api.Errno
		calls int
		files string
	}{
		{broken(1), api.ErrIO, 1, was},
		{broken(2), api.ErrIO, 2, was},
		{broken(3), api.ErrIO, 3, ""},
		{broken(4), api.OK, 3, ""},
		{[]fsim.Event{{At: 1, Kind: fsim.Crashed}}, api.ErrDown, 1, was},
		{[]fsim.Event{{At: 2, Kind: fsim.Crashed}}, api.ErrDown, 2, was},
		{[]fsim.Event{{At: 3, Kind: fsim.Crashed}}, api.ErrDown, 3, was},
		{[]fsim.Event{{At: 3, Kind: fsim.Crashed, Keep: 1}}, api.ErrDown, 3, ""},
		{[]fsim.Event{{At: 2, Kind: fsim.Removed, Path: "s/r/head"}}, api.ErrNone, 2, ""},
	} {
		f := newFS(t, 0)
		f.UserWrite("s/r/head", api.Exec, []byte(text(a)))
		f.Plan(c.plan)
		wantDelete(t, f, "head", a, c.want)
		wantCalls(t, f, c.calls)
		if got := filesOf(f); got != c.files {
			t.Errorf("case %d: files%s, want%s", i, got, c.files)
		}
	}
}

func TestList(t *testing.T) { // P8.3
	f := newFS(t, 10000)
	wantList(t, f)
	for _, path := range []string{"s/l/a", "s/rx/a", "s/r.", "s/a", "s/r/d/a", "s/r/d/e/a", "r/a", "w/s/r/a", "s/o/a"} {
		f.UserWrite(path, api.Plain, []byte(text(idOf("a"))))
	}
	wantList(t, f)
	for i, name := range []string{"head", "z", "A", "~", "!", "e", "d!", "d~", "peer", "head0", strings.Repeat("n", api.MaxName)} {
		f.UserWrite("s/r/"+name, 1+i%3, []byte(strings.Repeat("x", i)))
	}
	calls := f.Calls()
	wantList(t, f, "!", "A", "d!", "d~", "e", "head", "head0", strings.Repeat("n", api.MaxName), "peer", "z", "~")
	wantCalls(t, f, calls+1)
	g := withFiles(t, 10, "s/r", "x")
	wantList(t, g)
}

func TestErrorsOfList(t *testing.T) { // P8.3
	f := withFiles(t, 1000, "s/r/head", text(idOf("a")))
	f.Plan(broken(1))
	if l, errno := refs.List(f); len(l) > 0 || errno != api.ErrIO {
		t.Errorf("List() = %q, %d", l, errno)
	}
	wantList(t, f, "head")
	f.Crash(0, 0)
	if l, errno := refs.List(f); len(l) > 0 || errno != api.ErrDown {
		t.Errorf("List() = %q, %d", l, errno)
	}
	wantGet(t, f, "head", "", api.ErrDown)
}

func TestUnlock(t *testing.T) { // P8.3
	f := newFS(t, 10000)
	wantUnlock(t, f, 0, api.OK)
	for _, path := range []string{"s/r/a", "s/lx/a", "s/l.", "s/a", "s/l/d/a", "s/l/d/e/a", "l/a", "w/s/l/a"} {
		f.UserWrite(path, api.Plain, nil)
	}
	files := filesOf(f)
	wantUnlock(t, f, 0, api.OK)
	wantCalls(t, f, 2)
	for n := 1; n <= 20; n++ {
		for i := range n {
			f.UserWrite("s/l/"+strconv.Itoa(i), 1+i%3, []byte(strings.Repeat("x", i)))
		}
		calls := f.Calls()
		wantUnlock(t, f, n, api.OK)
		wantCalls(t, f, calls+n+1)
		if f.Pending() != n {
			t.Errorf("%d pending, want %d", f.Pending(), n)
		}
		wantUnlock(t, f, 0, api.OK)
		wantFiles(t, f, files)
	}
	g := withFiles(t, 10, "s/l", "x")
	wantUnlock(t, g, 0, api.OK)
	wantFiles(t, g, ` s/l:1"x"@1`)
}

// Locks are removed rising, up to the first one that can't be.
func TestErrorsOfUnlock(t *testing.T) { // P8.3
	for i, c := range []struct {
		plan []fsim.Event
		want api.Errno
		left []string
	}{
		{broken(1), api.ErrIO, []string{"s/l/a", "s/l/b", "s/l/c"}},
		{broken(2), api.ErrIO, []string{"s/l/a", "s/l/b", "s/l/c"}},
		{broken(3), api.ErrIO, []string{"s/l/b", "s/l/c"}},
		{broken(4), api.ErrIO, []string{"s/l/c"}},
		{[]fsim.Event{{At: 2, Kind: fsim.Removed, Path: "s/l/b"}}, api.ErrNone, []string{"s/l/c"}},
		{[]fsim.Event{{At: 3, Kind: fsim.Crashed, Keep: 1}}, api.ErrDown, []string{"s/l/b", "s/l/c"}},
	} {
		f := withFiles(t, 10, "s/l/b", "", "s/l/c", "", "s/l/a", "")
		f.Plan(c.plan)
		wantUnlock(t, f, 0, c.want)
		if !slices.Equal(f.Paths(), c.left) {
			t.Errorf("case %d: left %q, want %q", i, f.Paths(), c.left)
		}
		f.Plan(nil)
		f.Reboot()
		wantUnlock(t, f, len(c.left), api.OK)
		wantFiles(t, f, "")
	}
	f := newFS(t, 10)
	f.Crash(0, 0)
	wantUnlock(t, f, 0, api.ErrDown)
}
