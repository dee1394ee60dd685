package scan_test

import (
	"slices"
	"testing"

	"marline/api"
	"marline/scan"
)

// spoil writes into a list and into its spare room.
func spoil[E any](l []E, with E) {
	whole := l[:cap(l)]
	for i := range whole {
		whole[i] = with
	}
}

var (
	spoiledRow    = plain("spoiled", "spoiled")
	spoiledChange = scan.Change{Path: "spoiled", Old: spoiledRow.Entry, New: spoiledRow.Entry}
)

func TestPatternsHandedInStay(t *testing.T) { // P13.4
	b := newBench(t)
	b.users("w/a x", "w/b y", "w/c z", "v x")
	room := []string{"c", "*.o", "b", "a", "", "*"}
	b.want(room[:2], 2, plain("a", "x"), plain("b", "y"))
	if !slices.Equal(room, []string{"c", "*.o", "b", "a", "", "*"}) {
		t.Errorf("handed in is now %q", room)
	}
	spoil(room, "a")
	b.want(nil, 1, plain("a", "x"), plain("b", "y"), plain("c", "z")) // they are not kept
}

func TestRowsAreNewMemory(t *testing.T) { // P13.4
	b := newBench(t)
	b.users("w/a x", "w/b y", "w/c z", "v x")
	want := []api.Row{plain("a", "x"), plain("b", "y"), plain("c", "z")}
	for range 3 {
		c := b.copied()
		rows, _, _ := scan.Scan(b.f, b.s, b.x, nil)
		again, _, _ := scan.Scan(b.f, b.s, b.x, nil)
		of, _, _ := scan.Scan(c.f, c.s, c.x, nil)
		spoil(rows, spoiledRow)
		_ = append(rows, spoiledRow)
		if !slices.Equal(again, want) || !slices.Equal(of, want) {
			t.Errorf("what is written into an answer shows: %s, %s", shown(again), shown(of))
		}
		spoil(again, spoiledRow)
		b.want(nil, 0, want...)
	}
}

// What an error answers has no memory of what was found so far.
func TestNothingBesideAnError(t *testing.T) { // P13.1, P0.3
	b := newBench(t)
	b.users("w/a x", "w/b "+string(make([]byte, 4097)))
	rows, worked, errno := scan.Scan(b.f, b.s, b.x, nil)
	if rows != nil || worked != 0 || errno != api.ErrLong {
		t.Errorf("%v, %d, %d", rows, worked, errno)
	}
}

func TestTablesHandedInStay(t *testing.T) { // P13.4
	old := []api.Row{plain("b", "1"), plain("a", "1"), plain("c", "1"), plain("behind", "1")}
	next := []api.Row{plain("c", "2"), plain("b", "1"), plain("ahead", "1"), plain("behind", "2")}
	wasOld, wasNext := slices.Clone(old), slices.Clone(next)
	want := []scan.Change{
		{Path: "a", Old: plain("a", "1").Entry}, {Path: "ahead", New: plain("ahead", "1").Entry}, {Path: "c", Old: plain("c", "1").Entry, New: plain("c", "2").Entry},
	}
	got, again := scan.Status(old[:3], next[:3]), scan.Status(old[:3], next[:3])
	if !slices.Equal(got, want) {
		t.Errorf("%v, want %v", got, want)
	}
	if !slices.Equal(old, wasOld) || !slices.Equal(next, wasNext) {
		t.Errorf("handed in is now %s, %s", shown(old), shown(next))
	}
	spoil(old, spoiledRow)
	spoil(next, spoiledRow)
	spoil(got, spoiledChange)
	if !slices.Equal(again, want) {
		t.Errorf("what is written elsewhere shows in an answer: %v", again)
	}
}
