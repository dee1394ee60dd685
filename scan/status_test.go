package scan_test

import (
	"fmt"
	"math/rand"
	"slices"
	"strings"
	"testing"

	"marline/api"
	"marline/scan"
)

func wantStatus(t *testing.T, old, next []api.Row, want ...scan.Change) {
	t.Helper()
	if got := scan.Status(old, next); !slices.Equal(got, want) {
		t.Errorf("Status(%s, %s) = %v, want %v", shown(old), shown(next), got, want)
	}
}

func TestStatus(t *testing.T) { // P13.2
	a, b, c := plain("a", "1"), plain("b", "1"), plain("c", "1")
	none := api.Entry{}
	for _, k := range []struct {
		old, next []api.Row
		want      []scan.Change
	}{
		{nil, nil, nil},
		{[]api.Row{a, b, c}, []api.Row{a, b, c}, nil},
		{nil, []api.Row{a}, []scan.Change{{Path: "a", Old: none, New: a.Entry}}},
		{[]api.Row{a}, nil, []scan.Change{{Path: "a", Old: a.Entry, New: none}}},
		{[]api.Row{a, b}, []api.Row{b, c}, []scan.Change{{Path: "a", Old: a.Entry}, {Path: "c", New: c.Entry}}},
		{[]api.Row{b}, []api.Row{a, b, c}, []scan.Change{{Path: "a", New: a.Entry}, {Path: "c", New: c.Entry}}},
		{[]api.Row{a, b, c}, []api.Row{b}, []scan.Change{{Path: "a", Old: a.Entry}, {Path: "c", Old: c.Entry}}},
		{[]api.Row{b}, []api.Row{row("b", api.Exec, "1")}, []scan.Change{{Path: "b", Old: b.Entry, New: row("b", api.Exec, "1").Entry}}},
		{[]api.Row{b}, []api.Row{plain("b", "2")}, []scan.Change{{Path: "b", Old: b.Entry, New: plain("b", "2").Entry}}},
		{[]api.Row{b}, []api.Row{row("b", api.Link, "2")}, []scan.Change{{Path: "b", Old: b.Entry, New: row("b", api.Link, "2").Entry}}},
	} {
		wantStatus(t, k.old, k.next, k.want...)
	}
}

// Bytes order the paths: a file aside may stand between a directory's ones.
func TestStatusRises(t *testing.T) { // P13.2
	var old, next []api.Row
	var want []scan.Change
	for i, path := range []string{"A", "a", "a-b", "a/b", "a/b/c", "a0", "aa", "b", "z/a", "~", "\xff"} {
		r := plain(path, "1")
		if i%2 == 0 {
			old = append(old, r)
			want = append(want, scan.Change{Path: path, Old: r.Entry})
		} else {
			next = append(next, r)
			want = append(want, scan.Change{Path: path, New: r.Entry})
		}
	}
	wantStatus(t, old, next, want...)
}

// Rows may stand in any order, and be of no path that may be.
func TestStatusOfAnyRows(t *testing.T) { // P13.2, P0.1
	old := []api.Row{plain("c", "1"), plain("a", "1"), plain("", "1"), plain("../x", "1"), plain("b", "1")}
	next := []api.Row{plain("b", "1"), {Path: "d", Entry: api.Entry{Mode: -5, ID: "no hash"}}, plain("a", "2"), plain("", "1")}
	wantStatus(t, old, next,
		scan.Change{Path: "../x", Old: plain("../x", "1").Entry},
		scan.Change{Path: "a", Old: plain("a", "1").Entry, New: plain("a", "2").Entry},
		scan.Change{Path: "c", Old: plain("c", "1").Entry},
		scan.Change{Path: "d", New: api.Entry{Mode: -5, ID: "no hash"}})
	wantStatus(t, []api.Row{{Path: "a"}}, nil) // it stands there as if it did not
	wantStatus(t, nil, []api.Row{{Path: "a"}})
	wantStatus(t, []api.Row{plain("a", "1"), {Path: "b"}}, []api.Row{{Path: "a"}}, scan.Change{Path: "a", Old: plain("a", "1").Entry})
}

// Of several rows of a path the first counts.
func TestStatusOfDoubles(t *testing.T) { // P13.2, P0.7
	a1, a2 := plain("a", "1"), plain("a", "2")
	wantStatus(t, []api.Row{a1, a2}, []api.Row{a1})
	wantStatus(t, []api.Row{a1}, []api.Row{a1, a2, a2})
	wantStatus(t, []api.Row{a2, a1}, []api.Row{a1, a2}, scan.Change{Path: "a", Old: a2.Entry, New: a1.Entry})
	wantStatus(t, []api.Row{{Path: "a"}, a1}, nil)
}

// What two Scans tell, and what was done between them.
func TestStatusOfScans(t *testing.T) { // P13.2, P13.5
	b := newBench(t)
	b.users("w/a 1", "w/b 1", "w/c 1", "w/d 1")
	old, _, _ := scan.Scan(b.f, b.s, b.x, nil)
	b.users("w/b 2", "w/e/f 1", "w/c 1")
	b.f.UserRemove("w/a")
	b.f.UserWrite("w/d", api.Link, []byte("1"))
	next, _, _ := scan.Scan(b.f, b.s, b.x, nil)
	wantStatus(t, old, next,
		scan.Change{Path: "a", Old: plain("a", "1").Entry},
		scan.Change{Path: "b", Old: plain("b", "1").Entry, New: plain("b", "2").Entry},
		scan.Change{Path: "d", Old: plain("d", "1").Entry, New: row("d", api.Link, "1").Entry},
		scan.Change{Path: "e/f", New: plain("e/f", "1").Entry})
}

// statusModel says the chapter's words in another way: it looks through both
// lists for each path that any of them has.
func statusModel(old, next []api.Row) []scan.Change {
	at := func(l []api.Row, path string) api.Entry {
		for _, r := range l {
			if r.Path == path {
				return r.Entry
			}
		}
		return api.Entry{}
	}
	var changes []scan.Change
	for _, r := range slices.Concat(old, next) {
		c := scan.Change{Path: r.Path, Old: at(old, r.Path), New: at(next, r.Path)}
		if (c.Old.Mode != c.New.Mode || c.Old.ID != c.New.ID) && !slices.Contains(changes, c) {
			changes = append(changes, c)
		}
	}
	slices.SortFunc(changes, func(a, b scan.Change) int { return strings.Compare(a.Path, b.Path) })
	return changes
}

func TestStatusAsTheModel(t *testing.T) { // P13.2
	r := rand.New(rand.NewSource(132))
	for range rounds(3000) {
		table := func() []api.Row {
			var rows []api.Row
			for range r.Intn(8) {
				rows = append(rows, api.Row{Path: []string{"a", "a/b", "a-b", "b", "", "c"}[r.Intn(6)], Entry: api.Entry{Mode: r.Intn(3), ID: []string{"", "x", "y"}[r.Intn(3)]}})
			}
			return rows
		}
		old, next := table(), table()
		wantStatus(t, old, next, statusModel(old, next)...)
	}
}

func TestGreatTables(t *testing.T) { // P13.2
	var old, next []api.Row
	n := 100000
	for i := range n {
		old = append(old, api.Row{Path: fmt.Sprintf("f%06d", i), Entry: api.Entry{Mode: 1, ID: "x"}})
		next = append(next, api.Row{Path: fmt.Sprintf("f%06d", n-i), Entry: api.Entry{Mode: 1, ID: "x"}})
	}
	wantStatus(t, old, next, scan.Change{Path: "f000000", Old: old[0].Entry}, scan.Change{Path: "f100000", New: next[0].Entry})
}
