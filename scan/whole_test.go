package scan_test

import (
	"math/rand"
	"slices"
	"strings"
	"testing"

	"marline/api"
	"marline/fsim"
	"marline/names"
	"marline/scan"
)

// stands is what stands in the working directory, without a call.
func stands(f *fsim.FS, ignore []string) []api.Row {
	var rows []api.Row
	for _, place := range f.Paths() {
		if path, within := strings.CutPrefix(place, "w/"); within && !names.Ignored(ignore, path) {
			file, _ := f.Peek(place)
			rows = append(rows, row(path, file.Mode, string(file.Data)))
		}
	}
	return rows
}

// wantAll holds that a Scan by the index, one by a new index, and one by no
// Scan at all tell the same, and that the store has all Blobs.
func wantAll(t *testing.T, b bench, ignore []string) {
	t.Helper()
	want := stands(b.f, ignore)
	for _, x := range []*scan.Index{b.x, scan.NewIndex(), b.x.Copy()} {
		rows, worked, errno := scan.Scan(b.f, b.s, x, ignore)
		if errno != api.OK || !slices.Equal(rows, want) || worked > len(want) || x.Len() != len(want) {
			t.Fatalf("Scan = %s, %d, %d, want %s", shown(rows), worked, errno, shown(want))
		}
	}
	for _, r := range want {
		if o, errno := b.s.GetObj(r.ID); errno != api.OK || hashOf(string(o.Data)) != r.ID {
			t.Fatalf("%s: the store has %v, %d", r.Path, o, errno)
		}
	}
}

func someEdit(r *rand.Rand, f *fsim.FS) {
	path, to := somePaths[r.Intn(9)], somePaths[r.Intn(9)]
	switch r.Intn(6) {
	case 0, 1, 2:
		f.UserWrite(path, 1+r.Intn(3), []byte{byte(r.Intn(3))})
	case 3:
		f.UserRemove(path)
	case 4:
		f.Move(path, to)
	case 5:
		f.Write(path, 1+r.Intn(3), []byte{byte(r.Intn(3))})
	}
}

func TestScanTellsWhatStands(t *testing.T) { // P13.5
	r := rand.New(rand.NewSource(135))
	for range rounds(400) {
		b := newBench(t)
		for range 30 {
			for range r.Intn(4) {
				someEdit(r, b.f)
			}
			if r.Intn(4) == 0 {
				b.s.Drop(hashOf(string([]byte{byte(r.Intn(3))})))
			}
			wantAll(t, b, [][]string{nil, {"*.o"}}[r.Intn(2)])
		}
	}
}

// What users do in the midst of a Scan, and whatever fails in it, the next one
// tells.
func TestScanBehindOneThatWasDisturbed(t *testing.T) { // P13.5
	r := rand.New(rand.NewSource(1350))
	for range rounds(400) {
		b := newBench(t)
		for range 20 {
			for range r.Intn(5) {
				someEdit(r, b.f)
			}
			var l []fsim.Event
			for range 1 + r.Intn(4) {
				l = append(l, fsim.Event{At: b.f.Calls() + 1 + r.Intn(15), Kind: 2 + r.Intn(4), Path: somePaths[r.Intn(9)], Mode: 1 + r.Intn(3), Data: []byte{byte(r.Intn(3))}})
			}
			b.f.Plan(l)
			scan.Scan(b.f, b.s, b.x, nil)
			b.f.Plan(nil)
			wantAll(t, b, nil)
		}
	}
}

// Behind a crash a new index is taken.
func TestScanBehindACrash(t *testing.T) { // P13.5
	r := rand.New(rand.NewSource(13500))
	for range rounds(400) {
		b := newBench(t)
		for range 10 {
			for range r.Intn(8) {
				someEdit(r, b.f)
			}
			b.at(1+r.Intn(15), fsim.Event{Kind: fsim.Crashed, Keep: r.Intn(9), Torn: r.Intn(3) - 1})
			scan.Scan(b.f, b.s, b.x, nil)
			b.f.Plan(nil)
			b.f.Crash(r.Intn(9), r.Intn(3)-1)
			b.f.Reboot()
			b.x = scan.NewIndex()
			wantAll(t, b, nil)
		}
	}
}

func TestNothingIsWorkedOutTwice(t *testing.T) { // P13.5
	r := rand.New(rand.NewSource(5))
	for range rounds(400) {
		b := newBench(t)
		for range 10 {
			for range r.Intn(6) {
				someEdit(r, b.f)
			}
			b.users("elsewhere x")
			rows, _, _ := scan.Scan(b.f, b.s, b.x, nil)
			b.want(nil, 0, rows...)
			b.want(nil, 0, rows...)
			b.users("elsewhere y")
			b.want(nil, 0, rows...)
		}
	}
}

// A Scan that worked out nothing reads each file, and asks the store once.
func TestOnlyWhatChangedIsWorkedOut(t *testing.T) { // P13.5
	b := newBench(t)
	files := manyFiles("w/f", 200)
	b.users(files...)
	b.users("v x")
	if _, worked, errno := scan.Scan(b.f, b.s, b.x, nil); worked != 200 || errno != api.OK {
		t.Fatalf("%d, %d", worked, errno)
	}
	for i := range 50 {
		b.users(files[:i]...)
		b.users("v x")
		if _, worked, errno := scan.Scan(b.f, b.s, b.x, nil); worked != i || errno != api.OK {
			t.Errorf("%d files written again: %d, %d", i, worked, errno)
		}
		b.wantCalls(nil, 1+2*200)
	}
}
