package store_test

import (
	"slices"
	"strings"
	"testing"

	"marline/api"
	"marline/fsim"
	"marline/obj"
	"marline/sha"
	"marline/store"
)

func newFS(t *testing.T, room int) *fsim.FS {
	t.Helper()
	f, errno := fsim.New(room)
	if errno != api.OK {
		t.Fatalf("New(%d): %d", room, errno)
	}
	return f
}

func newStore(t *testing.T, room int) (*fsim.FS, *store.Store) {
	t.Helper()
	f := newFS(t, room)
	return f, store.Open(f)
}

func place(b string) string { return "s/o/" + sha.ID([]byte(b)) }

// wantCounts holds the calls of the file system and the reads of the store
// against what they must be.
func wantCounts(t *testing.T, f *fsim.FS, s *store.Store, calls, reads int) {
	t.Helper()
	if f.Calls() != calls || s.Reads() != reads {
		t.Errorf("%d calls and %d reads, want %d and %d", f.Calls(), s.Reads(), calls, reads)
	}
}

func wantFiles(t *testing.T, f *fsim.FS, want string) {
	t.Helper()
	if got := filesOf(f); got != want {
		t.Errorf("files%s, want%s", got, want)
	}
}

func wantPut(t *testing.T, s *store.Store, b []byte, want api.Errno) {
	t.Helper()
	id, errno := s.Put(b)
	wantID := ""
	if want == api.OK {
		wantID = hashOf(b)
	}
	if id != wantID || errno != want {
		t.Errorf("Put(%s) = %q, %d, want %q, %d", dataText(b), id, errno, wantID, want)
	}
}

func wantGet(t *testing.T, s *store.Store, id string, want []byte, wantErrno api.Errno) {
	t.Helper()
	b, errno := s.Get(id)
	if string(b) != string(want) || errno != wantErrno {
		t.Errorf("Get(%s) = %q, %d, want %q, %d", id, dataText(b), errno, dataText(want), wantErrno)
	}
	if s.Has(id) != (wantErrno == api.OK) {
		t.Errorf("Has(%s) = %v, Get: %d", id, wantErrno != api.OK, wantErrno)
	}
}

func TestOpenCallsNothing(t *testing.T) { // P7.1, P7.4
	f, s := newStore(t, 100)
	wantCounts(t, f, s, 0, 0)
	f.Crash(0, 0)
	s = store.Open(f)
	wantCounts(t, f, s, 0, 0)
	if f.Reboot(); !f.Up() {
		t.Error("it is not up")
	}
	wantPut(t, s, []byte("x"), api.OK)
	wantFiles(t, f, " "+place("x")+`:1"x"@1`)
}

func TestPutWritesAsideAndMoves(t *testing.T) { // P7.1
	f, s := newStore(t, 100)
	var seen []string
	for at := 1; at <= 4; at++ {
		stopped := f.Copy()
		stopped.Plan([]fsim.Event{{At: at, Kind: fsim.Broken}})
		store.Open(stopped).Put([]byte("x"))
		seen = append(seen, filesOf(stopped))
	}
	if want := []string{"", "", ` s/t:1"x"@1`, " " + place("x") + `:1"x"@1`}; !slices.Equal(seen, want) {
		t.Errorf("ahead of each call: %q, want %q", seen, want)
	}
	wantPut(t, s, []byte("x"), api.OK)
	wantCounts(t, f, s, 3, 1)
	if f.Pending() != 2 {
		t.Errorf("%d changes are pending", f.Pending())
	}
}

func TestPutOfWhatIsThere(t *testing.T) { // P7.1
	f, s := newStore(t, 1)
	f.UserWrite(place("x"), api.Exec, []byte("x"))
	f.UserWrite("s/t", api.Link, []byte("part"))
	want := filesOf(f)
	for i := range 3 {
		wantPut(t, s, []byte("x"), api.OK)
		wantCounts(t, f, s, i+1, i+1)
	}
	wantFiles(t, f, want)
}

// Where other bytes stand, even a part of the right ones or more than these,
// they are replaced; so is the mode.
func TestPutOverOthers(t *testing.T) { // P7.1
	for _, there := range []string{"", "wor", "words", "World", "wordt"} {
		f, s := newStore(t, 100)
		f.UserWrite(place("word"), api.Exec, []byte(there))
		wantPut(t, s, []byte("word"), api.OK)
		wantCounts(t, f, s, 3, 1)
		wantFiles(t, f, " "+place("word")+`:1"word"@2`)
	}
}

func TestPutOfManyBytes(t *testing.T) { // P7.1
	f, s := newStore(t, 1<<20)
	most := slices.Repeat([]byte("ab"), api.MaxObj/2)
	wantPut(t, s, append(most, 'a'), api.ErrLong)
	wantPut(t, s, make([]byte, 1<<20), api.ErrLong)
	wantCounts(t, f, s, 0, 0)
	wantPut(t, s, most, api.OK)
	wantGet(t, s, sha.ID(most), most, api.OK)
	f.Crash(0, 0)
	wantPut(t, s, append(most, 'a'), api.ErrLong)
	wantPut(t, s, most, api.ErrDown)
}

func TestPutOfNothing(t *testing.T) { // P7.1, P7.2
	f, s := newStore(t, 0)
	wantPut(t, s, nil, api.OK)
	wantPut(t, s, []byte{}, api.OK)
	wantCounts(t, f, s, 4, 2)
	wantGet(t, s, sha.ID(nil), nil, api.OK)
	if o, errno := s.GetObj(sha.ID(nil)); errno != api.ErrShort || !obj.Same(o, obj.Obj{}) {
		t.Errorf("GetObj of nothing: %v, %d", o, errno)
	}
}

// Each error of a Put, and how many calls it has made by then.
func TestErrorsOfPut(t *testing.T) { // P7.1
	broken := func(at int) []fsim.Event { return []fsim.Event{{At: at, Kind: fsim.Broken}} }
	for name, c := range map[string]struct {
		room  int
		there string // where a file stands in the way
		plan  []fsim.Event
		want  api.Errno
		calls int
		files string
	}{
		"broken Read":      {100, "", broken(1), api.ErrIO, 1, ""},
		"broken Write":     {100, "", broken(2), api.ErrIO, 2, ""},
		"broken Move":      {100, "", broken(3), api.ErrIO, 3, ` s/t:1"x"@1`},
		"broken behind it": {100, "", broken(4), api.OK, 3, " " + place("x") + `:1"x"@1`},
		"down":             {100, "", []fsim.Event{{At: 1, Kind: fsim.Crashed}}, api.ErrDown, 1, ""},
		"falls at Write":   {100, "", []fsim.Event{{At: 2, Kind: fsim.Crashed}}, api.ErrDown, 2, ""},
		"falls at Move":    {100, "", []fsim.Event{{At: 3, Kind: fsim.Crashed, Keep: 1}}, api.ErrDown, 3, ` s/t:1"x"@1`},
		"no room":          {0, "", nil, api.ErrFull, 2, ""},
		"NoRoom at Write":  {100, "", []fsim.Event{{At: 2, Kind: fsim.NoRoom}}, api.ErrFull, 2, ""},
		"a file at s":      {100, "s", nil, api.ErrDir, 2, ` s:1""@1`},
		"a file at s/o":    {100, "s/o", nil, api.ErrDir, 3, ` s/o:1""@1 s/t:1"x"@2`},
		"a file below s/t": {100, "s/t/a", nil, api.ErrDir, 2, ` s/t/a:1""@1`},
		"a file below it":  {100, place("x") + "/a", nil, api.ErrDir, 3, " " + place("x") + `/a:1""@1 s/t:1"x"@2`},
	} {
		t.Run(name, func(t *testing.T) {
			f, s := newStore(t, c.room)
			if c.there != "" {
				f.UserWrite(c.there, api.Plain, nil)
			}
			f.Plan(c.plan)
			wantPut(t, s, []byte("x"), c.want)
			wantCounts(t, f, s, c.calls, 1)
			wantFiles(t, f, c.files)
		})
	}
}

func TestPutObj(t *testing.T) { // P7.1, P7.2
	f, s := newStore(t, 1<<20)
	for _, o := range someObjects() {
		calls := f.Calls()
		b, want := obj.Encode(o)
		if want == api.OK && len(b) > api.MaxObj {
			want = api.ErrLong
		}
		id, errno := s.PutObj(o)
		if errno != want {
			t.Errorf("PutObj of kind %d with %d bytes: %d, want %d", o.Kind, len(b), errno, want)
		}
		if want != api.OK {
			if id != "" || f.Calls() != calls {
				t.Errorf("PutObj of kind %d beside an error: %q, %d calls", o.Kind, id, f.Calls()-calls)
			}
			continue
		}
		wantGet(t, s, id, b, api.OK)
		if got, errno := s.GetObj(id); id != hashOf(b) || errno != api.OK || !obj.Same(got, o) {
			t.Errorf("GetObj of %s: %v, %d, want %v", id, got, errno, o)
		}
	}
	f.Crash(0, 0)
	if id, errno := s.PutObj(obj.Obj{Kind: 4}); id != "" || errno != api.ErrRange {
		t.Errorf("PutObj of none: %q, %d", id, errno)
	}
	if id, errno := s.PutObj(aTree()); id != "" || errno != api.ErrDown {
		t.Errorf("PutObj: %q, %d", id, errno)
	}
}

func TestWhatIsNoHash(t *testing.T) { // P7.2, P7.3
	f, s := newStore(t, 100)
	for _, id := range notHashes() {
		f.UserWrite("s/o/"+id, api.Plain, []byte("x"))
	}
	for _, down := range []bool{false, true} {
		if down {
			f.Crash(0, 0)
		}
		files := filesOf(f)
		for _, id := range notHashes() {
			wantGet(t, s, id, nil, api.ErrName)
			if o, errno := s.GetObj(id); errno != api.ErrName || !obj.Same(o, obj.Obj{}) {
				t.Errorf("GetObj(%q) = %v, %d", id, o, errno)
			}
			if errno := s.Drop(id); errno != api.ErrName {
				t.Errorf("Drop(%q) = %d", id, errno)
			}
		}
		wantCounts(t, f, s, 0, 0)
		wantFiles(t, f, files)
	}
}

// Bytes of another hash are not answered, and no object is read out of them.
func TestGetOfOtherBytes(t *testing.T) { // P7.2
	f, s := newStore(t, 1000)
	for _, there := range []string{"", "\x01h", "\x01hi!", "\x01ha", "\x02\x00", "?"} {
		f.UserWrite(place("\x01hi"), api.Plain, []byte(there))
		id := sha.ID([]byte("\x01hi"))
		wantGet(t, s, id, nil, api.ErrSum)
		if o, errno := s.GetObj(id); errno != api.ErrSum || !obj.Same(o, obj.Obj{}) {
			t.Errorf("GetObj beside %q = %v, %d", there, o, errno)
		}
	}
	f.UserWrite(place("\x01hi"), api.Link, []byte("\x01hi"))
	wantGet(t, s, sha.ID([]byte("\x01hi")), []byte("\x01hi"), api.OK)
}

func TestErrorsOfGet(t *testing.T) { // P7.2
	f, s := newStore(t, 1000)
	id, _ := s.Put([]byte("\x02\x01"))
	none := sha.ID([]byte("none"))
	wantGet(t, s, none, nil, api.ErrNone)
	if o, errno := s.GetObj(none); errno != api.ErrNone || !obj.Same(o, obj.Obj{}) {
		t.Errorf("GetObj of none: %v, %d", o, errno)
	}
	if o, errno := s.GetObj(id); errno != api.ErrForm || !obj.Same(o, obj.Obj{}) {
		t.Errorf("GetObj of no object's bytes: %v, %d", o, errno)
	}
	f.Plan([]fsim.Event{{At: f.Calls() + 1, Kind: fsim.Broken}, {At: f.Calls() + 2, Kind: fsim.Broken}})
	wantGet(t, s, id, nil, api.ErrIO)
	wantGet(t, s, id, []byte("\x02\x01"), api.OK)
	f.Crash(9, 9)
	wantGet(t, s, id, nil, api.ErrDown)
	if o, errno := s.GetObj(id); errno != api.ErrDown || !obj.Same(o, obj.Obj{}) {
		t.Errorf("GetObj: %v, %d", o, errno)
	}
	f.Reboot()
	wantGet(t, s, id, []byte("\x02\x01"), api.OK)
}

func TestList(t *testing.T) { // P7.3
	f, s := newStore(t, 1000)
	if l, errno := s.List(); len(l) > 0 || errno != api.OK {
		t.Errorf("List of nothing: %q, %d", l, errno)
	}
	id := sha.ID([]byte("x"))
	for _, path := range []string{
		"s/o/none", "s/o/" + id[1:], "s/o/" + strings.ToUpper(id), "s/o/" + id[:63] + "g", "s/o/d/" + id, "s/o/" + strings.Repeat("0", 64) + "/" + id,
		"s/" + id, "s/t", "s/ox/" + id, "s/p/" + id, id, "w/s/o/" + id,
	} {
		f.UserWrite(path, api.Plain, nil)
	}
	if l, errno := s.List(); len(l) > 0 || errno != api.OK {
		t.Errorf("List without objects: %q, %d", l, errno)
	}
	// A hash counts by its name, whatever bytes are there.
	want := []string{strings.Repeat("9", 64), strings.Repeat("a", 64), strings.Repeat("f", 64)}
	for _, id := range want {
		f.UserWrite("s/o/"+id, api.Exec, nil)
	}
	for _, text := range []string{"d", "a", "c", "a", "b"} {
		id, _ := s.Put([]byte(text))
		if !slices.Contains(want, id) {
			want = append(want, id)
		}
	}
	slices.Sort(want)
	calls, reads := f.Calls(), s.Reads()
	if l, errno := s.List(); !slices.Equal(l, want) || errno != api.OK {
		t.Errorf("List() = %q, %d, want %q", l, errno, want)
	}
	wantCounts(t, f, s, calls+1, reads)
}

func TestErrorsOfList(t *testing.T) { // P7.3
	f, s := newStore(t, 1000)
	s.Put([]byte("x"))
	f.Plan([]fsim.Event{{At: 4, Kind: fsim.Broken}})
	if l, errno := s.List(); len(l) > 0 || errno != api.ErrIO {
		t.Errorf("List() = %q, %d", l, errno)
	}
	f.Crash(9, 0)
	if l, errno := s.List(); len(l) > 0 || errno != api.ErrDown {
		t.Errorf("List() = %q, %d", l, errno)
	}
}

func TestDrop(t *testing.T) { // P7.3
	f, s := newStore(t, 1000)
	id, _ := s.Put([]byte("x"))
	other, _ := s.Put([]byte("y"))
	f.UserWrite("s/t", api.Plain, nil)
	f.Plan([]fsim.Event{{At: 7, Kind: fsim.Broken}})
	for i, want := range []api.Errno{api.ErrIO, api.OK, api.ErrNone} {
		if errno := s.Drop(id); errno != want {
			t.Errorf("Drop %d = %d, want %d", i, errno, want)
		}
	}
	wantCounts(t, f, s, 9, 2)
	wantGet(t, s, id, nil, api.ErrNone)
	wantGet(t, s, other, []byte("y"), api.OK)
	f.UserWrite("s/o/"+other, api.Exec, []byte("z")) // whatever bytes are there
	if errno := s.Drop(other); errno != api.OK {
		t.Errorf("Drop of other bytes = %d", errno)
	}
	wantFiles(t, f, ` s/t:1""@5`)
	f.Crash(9, 0)
	if errno := s.Drop(id); errno != api.ErrDown {
		t.Errorf("Drop = %d", errno)
	}
}

func TestClean(t *testing.T) { // P7.3
	f, s := newStore(t, 1000)
	s.Put([]byte("x"))
	for _, part := range []string{"", "part"} {
		f.UserWrite("s/t", api.Exec, []byte(part))
		for range 2 {
			if errno := s.Clean(); errno != api.OK {
				t.Errorf("Clean() = %d", errno)
			}
			wantFiles(t, f, " "+place("x")+`:1"x"@1`)
		}
	}
	wantCounts(t, f, s, 7, 1)
	f.UserWrite("s/t", api.Exec, nil)
	f.Plan([]fsim.Event{{At: 8, Kind: fsim.Broken}})
	for i, want := range []api.Errno{api.ErrIO, api.OK, api.OK} {
		if errno := s.Clean(); errno != want {
			t.Errorf("Clean %d = %d, want %d", i, errno, want)
		}
	}
	f.UserWrite("s/t/a", api.Plain, nil)
	if errno := s.Clean(); errno != api.OK {
		t.Errorf("Clean of a directory = %d", errno)
	}
	f.Crash(9, 0)
	if errno := s.Clean(); errno != api.ErrDown {
		t.Errorf("Clean() = %d", errno)
	}
}

// Reads are those of one store: neither those of another one over the same
// files, nor what others ask of these.
func TestReads(t *testing.T) { // P7.4
	f, s := newStore(t, 1000)
	other := store.Open(f)
	id, none := sha.ID([]byte("\x01hi")), sha.ID([]byte("none"))
	for i, c := range []struct {
		do   func()
		want int
	}{
		{func() { s.Put([]byte("\x01hi")) }, 1},
		{func() { s.Put([]byte("\x01hi")) }, 2},
		{func() { s.PutObj(aTree()) }, 3},
		{func() { s.PutObj(obj.Obj{}) }, 3},
		{func() { s.Put(make([]byte, api.MaxObj+1)) }, 3},
		{func() { s.Get(id) }, 4},
		{func() { s.Get(none) }, 5},
		{func() { s.Get("") }, 5},
		{func() { s.GetObj(id) }, 6},
		{func() { s.GetObj(none) }, 7},
		{func() { s.Has(id) }, 8},
		{func() { s.Has(none) }, 9},
		{func() { s.Has(id[1:]) }, 9},
		{func() { s.List() }, 9},
		{func() { s.Clean() }, 9},
		{func() { s.Drop(id) }, 9},
		{func() { f.Read("s/o/" + id) }, 9},
		{func() { other.Get(id) }, 9},
		{func() { other.Put([]byte("\x01hi")) }, 9},
		{func() { s.Reads() }, 9},
		{func() { f.Plan([]fsim.Event{{At: f.Calls() + 1, Kind: fsim.Broken}}); s.Get(id) }, 10},
		{func() { f.Crash(0, 0); s.Get(id) }, 11},
		{func() { s.Put([]byte("\x01hi")) }, 12},
		{func() { f.Reboot(); s.Reads() }, 12},
	} {
		if c.do(); s.Reads() != c.want {
			t.Errorf("behind step %d: %d reads, want %d", i, s.Reads(), c.want)
		}
	}
	if other.Reads() != 2 || store.Open(f).Reads() != 0 {
		t.Errorf("the other one: %d reads", other.Reads())
	}
}

// What the store answers hangs on what lies there now, not on what it once
// saw there.
func TestNothingIsKept(t *testing.T) { // P7.1, P7.2
	f, s := newStore(t, 1000)
	id, _ := s.Put([]byte("x"))
	wantGet(t, s, id, []byte("x"), api.OK)
	f.UserWrite(place("x"), api.Plain, []byte("y"))
	wantGet(t, s, id, nil, api.ErrSum)
	f.UserRemove(place("x"))
	wantGet(t, s, id, nil, api.ErrNone)
	wantPut(t, s, []byte("x"), api.OK)
	wantGet(t, store.Open(f), id, []byte("x"), api.OK)
}
