package store_test

import (
	"fmt"
	"math/rand"
	"slices"
	"strings"
	"testing"

	"marline/api"
	"marline/fsim"
	"marline/obj"
	"marline/sha"
)

// someBytes are bytes of objects, and others; the last ones are too long.
func someBytes() [][]byte {
	return [][]byte{
		nil, []byte("x"), []byte("y"), []byte("\x01hi"), []byte("\x01"), []byte("\x02\x00"), []byte("\x02\x01"),
		aTreeBytes(), []byte("\x03" + strings.Repeat("c", 32) + "\x00\x00\x00\x00"),
		slices.Repeat([]byte{1}, api.MaxObj), slices.Repeat([]byte{1}, api.MaxObj+1),
	}
}

func aTreeBytes() []byte {
	b, _ := obj.Encode(aTree())
	return b
}

func aTree() obj.Obj {
	return obj.Obj{Kind: obj.Tree, Items: []obj.Item{
		{Mode: api.Plain, Name: "a", ID: sha.ID([]byte("x"))},
		{Mode: api.Dir, Name: "b", ID: sha.ID([]byte("y"))},
	}}
}

func aCommit() obj.Obj {
	return obj.Obj{
		Kind: obj.Commit, Tree: sha.ID([]byte("t")), Parents: []string{strings.Repeat("3", 64), strings.Repeat("4", 64)},
		Stamp: 300, Author: 7, Msg: "a word",
	}
}

// someObjects are objects that may be, and, at the end, some that may not.
func someObjects() []obj.Obj {
	return []obj.Obj{
		{Kind: obj.Blob}, {Kind: obj.Blob, Data: []byte("hi")}, {Kind: obj.Tree}, aTree(), aCommit(),
		{Kind: obj.Blob, Data: slices.Repeat([]byte{1}, api.MaxObj-1)}, {Kind: obj.Blob, Data: slices.Repeat([]byte{1}, api.MaxObj)},
		{}, {Kind: 4}, {Kind: obj.Commit}, {Kind: obj.Blob, Msg: "m"},
	}
}

func notHashes() []string {
	id := sha.ID([]byte("x"))
	return []string{
		"", "x", id[1:], id + "0", id + id, strings.ToUpper(id), id[:63] + "g", id[:63] + "/", "../" + id, id + "/x", "/" + id[1:], " " + id[1:],
		id[:63] + "\n", strings.Repeat(".", 64), strings.Repeat("\x00", 64), strings.Repeat("é", 32),
	}
}

func pick[T any](r *rand.Rand, l []T) T { return l[r.Intn(len(l))] }

func randomID(r *rand.Rand) string {
	if r.Intn(15) == 0 {
		return pick(r, notHashes())
	}
	return sha.ID(pick(r, someBytes()))
}

// randomPath is one that lies in the way of a store, or beside it.
func randomPath(r *rand.Rand) string {
	id := randomID(r)
	return pick(r, []string{
		"s/o/" + id, "s/o/" + id, "s/o/" + id, "s/o/" + id + "/x", "s/o/d/" + id, "s/o/d", "s/o", "s", "s/t", "s/t", "s/t/x", "s/" + id, "s/ox/" + id, id, "w/a",
	})
}

func randomData(r *rand.Rand) []byte {
	b := pick(r, someBytes())
	if len(b) > 0 && r.Intn(3) == 0 {
		return b[:r.Intn(len(b))]
	}
	return b
}

func randomPlan(r *rand.Rand) []fsim.Event {
	l := make([]fsim.Event, r.Intn(10))
	for i := range l {
		l[i] = fsim.Event{
			At: 1 + r.Intn(30), Kind: 1 + r.Intn(5), Mode: 1 + r.Intn(3), Keep: r.Intn(9), Torn: r.Intn(9) - 1,
			Path: randomPath(r), Data: randomData(r),
		}
	}
	return l
}

// planned is l, each event so many calls behind those that there were.
func planned(f *fsim.FS, l []fsim.Event) []fsim.Event {
	later := slices.Clone(l)
	for i := range later {
		later[i].At += f.Calls()
	}
	return later
}

func (p *pair) doBeside(r *rand.Rand) {
	p.t.Helper()
	path, data, mode := randomPath(r), randomData(r), 1+r.Intn(3)
	switch r.Intn(9) {
	case 0, 1, 2:
		p.files("UserWrite("+path+")", func(f *fsim.FS) { f.UserWrite(path, mode, data) })
	case 3:
		p.files("UserRemove("+path+")", func(f *fsim.FS) { f.UserRemove(path) })
	case 4:
		p.files("Sync()", func(f *fsim.FS) { f.Sync() })
	case 5:
		keep, torn := r.Intn(9), r.Intn(9)-1
		p.files(fmt.Sprintf("Crash(%d, %d)", keep, torn), func(f *fsim.FS) { f.Crash(keep, torn) })
	case 6, 7:
		p.files("Reboot()", func(f *fsim.FS) { f.Reboot() })
	case 8:
		l := randomPlan(r)
		p.files(fmt.Sprintf("Plan(%d events)", len(l)), func(f *fsim.FS) { f.Plan(planned(f, l)) })
	}
}

func (p *pair) doRandom(r *rand.Rand) {
	p.t.Helper()
	switch r.Intn(20) {
	case 0, 1, 2, 3, 4, 5:
		p.put(pick(r, someBytes()))
	case 6, 7:
		p.putObj(pick(r, someObjects()))
	case 8, 9:
		p.get(randomID(r))
	case 10:
		p.getObj(randomID(r))
	case 11:
		p.has(randomID(r))
	case 12:
		p.list()
	case 13, 14:
		p.drop(randomID(r))
	case 15:
		p.clean()
	default:
		p.doBeside(r)
	}
}

func TestRandomRuns(t *testing.T) { // P7.1 to P7.4
	runs := 500
	if testing.Short() {
		runs = 50
	}
	r := rand.New(rand.NewSource(71))
	for range runs {
		p := newPair(t, newFS(t, pick(r, []int{0, 3, 100, 20100, 1 << 30})))
		for range 60 {
			p.doRandom(r)
		}
	}
}

// prepared are file systems on which a call of a store goes another way each:
// nothing there, all there, other bytes there, and something in the way.
func prepared(t *testing.T) map[string]*fsim.FS {
	id := sha.ID([]byte("x"))
	write := func(room int, files ...string) *fsim.FS {
		f := newFS(t, room)
		for i := 0; i < len(files); i += 2 {
			f.UserWrite(files[i], api.Exec, []byte(files[i+1]))
		}
		return f
	}
	return map[string]*fsim.FS{
		"empty":              write(1000),
		"no room":            write(0),
		"there":              write(1000, "s/o/"+id, "x", "s/t", "part"),
		"there, no room":     write(0, "s/o/"+id, "x", "s/t", "part"),
		"other":              write(1000, "s/o/"+id, "y"),
		"other, no room":     write(0, "s/o/"+id, "y"),
		"part":               write(1000, "s/t", "part"),
		"nothing at place":   write(1000, "s/o/"+id, ""),
		"s is a file":        write(1000, "s", "f"),
		"s/o is a file":      write(1000, "s/o", "f"),
		"place is a dir":     write(1000, "s/o/"+id+"/x", "f"),
		"s/t is a dir":       write(1000, "s/t/x", "f"),
		"there and s/t/x":    write(1000, "s/o/"+id, "x", "s/t/x", "f"),
		"others stand there": write(1000, "s/o/none", "", "s/o/"+sha.ID([]byte("a")), "b", "s/o/d/"+id, "x", "s/ox/"+id, "x"),
	}
}

// Each call of a store on each of these file systems, with each event ahead of
// each of its calls of the file system.
func TestEachEventAheadOfEachCall(t *testing.T) { // P7.1 to P7.4
	id := sha.ID([]byte("x"))
	blob := obj.Obj{Kind: obj.Blob, Data: []byte("hi")}
	calls := map[string]func(p *pair){
		"Put":    func(p *pair) { p.put([]byte("x")) },
		"PutObj": func(p *pair) { p.putObj(blob) },
		"Get":    func(p *pair) { p.get(id) },
		"GetObj": func(p *pair) { p.getObj(id) },
		"Has":    func(p *pair) { p.has(id) },
		"List":   func(p *pair) { p.list() },
		"Drop":   func(p *pair) { p.drop(id) },
		"Clean":  func(p *pair) { p.clean() },
	}
	events := []fsim.Event{
		{}, {Kind: fsim.Crashed, Keep: 1}, {Kind: fsim.Crashed, Torn: 1}, {Kind: fsim.NoRoom}, {Kind: fsim.Broken},
		{Kind: fsim.Wrote, Path: "s/t", Mode: 1, Data: []byte("user")}, {Kind: fsim.Wrote, Path: "s/o/" + id, Mode: 1, Data: []byte("x")},
		{Kind: fsim.Wrote, Path: "s/o/" + id + "/u", Mode: 1}, {Kind: fsim.Wrote, Path: "s", Mode: 1},
		{Kind: fsim.Removed, Path: "s/t"}, {Kind: fsim.Removed, Path: "s/o/" + id},
	}
	for where, f := range prepared(t) {
		for name, call := range calls {
			for i, e := range events {
				for at := 1; at <= 4; at++ {
					e.At = at
					planned := f.Copy()
					planned.Plan([]fsim.Event{e})
					p := newPair(t, planned)
					p.done = []string{where, name, fmt.Sprintf("event %d of kind %d at %d", i, e.Kind, at)}
					call(p)
					call(p)
				}
			}
		}
	}
}
