package table_test

import (
	"bytes"
	"fmt"
	"math/rand"
	"slices"
	"strings"
	"testing"

	"marline/api"
	"marline/obj"
	"marline/sha"
	"marline/table"
)

// wantTrees holds that Build answers the first of the trees as the top, and all
// of them, rising by hash.
func wantTrees(t *testing.T, l []api.Row, want ...[]byte) {
	t.Helper()
	top, trees, errno := table.Build(l)
	if errno != api.OK || top != sha.ID(want[0]) {
		t.Errorf("Build(%.300v) = %q, %d, want %q", l, top, errno, sha.ID(want[0]))
	}
	sorted := slices.Clone(want)
	slices.SortFunc(sorted, func(a, b []byte) int { return strings.Compare(sha.ID(a), sha.ID(b)) })
	if !slices.EqualFunc(trees, sorted, bytes.Equal) {
		t.Errorf("Build(%.300v): %.500x, want %.500x", l, trees, sorted)
	}
}

func TestBuild(t *testing.T) { // P16.2
	x := api.Entry{Mode: api.Plain, ID: id("X")}
	b := encoded(obj.Item{Mode: api.Plain, Name: "b", ID: id("X")})
	wantTrees(t, []api.Row{{Path: "a/b", Entry: x}}, encoded(dir("a", sha.ID(b))), b)
	wantTrees(t, nil, []byte{2, 0})
	wantTrees(t, []api.Row{}, []byte{2, 0})
	wantTrees(t, []api.Row{{Path: "b", Entry: x}}, b)
	wantTrees(t, rows("a", "b", "c"), encoded(in("a", 1), in("b", 2), in("c", 3)))
	c, d := encoded(in("a/b/c", 2)), encoded(in("a/c/d", 3))
	a := encoded(dir("b", sha.ID(c)), in("a/b!", 1), dir("c", sha.ID(d)))
	wantTrees(t, rows("a/b!", "a/b/c", "a/c/d"), encoded(dir("a", sha.ID(a))), a, c, d)
	a = encoded(in("a/b!", 1), in("a/b0", 2), dir("c", sha.ID(d)))
	wantTrees(t, rows("a/b!", "a/b0", "a/c/d"), encoded(dir("a", sha.ID(a))), a, d)
}

// Paths rise in a table, names in a tree: that is not the same order.
func TestBuildRises(t *testing.T) { // P16.2
	a := encoded(in("a/b", 3))
	b := encoded(in("b/a", 1))
	wantTrees(t, rows("a!", "a-b", "a/b", "b/a", "b0"), encoded(dir("a", sha.ID(a)), in("a!", 1), in("a-b", 2), dir("b", sha.ID(b)), in("b0", 2)), a, b)
	top := encoded(dir("p", sha.ID(encoded(dir("a", sha.ID(a)), in("p/a!", 1), in("p/a-b", 2)))))
	wantTrees(t, []api.Row{row("p/a!", 1), row("p/a-b", 2), {Path: "p/a/b", Entry: row("a/b", 3).Entry}}, top, encoded(dir("a", sha.ID(a)), in("p/a!", 1), in("p/a-b", 2)), a)
}

func TestBuildOfDeepPaths(t *testing.T) { // P16.2
	path := "a/b/c/d/e/f/g"
	trees := [][]byte{encoded(in(path, 2))}
	for _, name := range []string{"f", "e", "d", "c", "b", "a"} {
		trees = append(trees, encoded(dir(name, sha.ID(trees[len(trees)-1]))))
	}
	slices.Reverse(trees)
	wantTrees(t, []api.Row{row(path, 2)}, trees...)
}

// What is alike is one tree, wherever it stands; modes and hashes set apart.
func TestBuildTellsEachOnce(t *testing.T) { // P16.2
	at := func(e api.Entry, paths ...string) []api.Row {
		var l []api.Row
		for _, path := range paths {
			l = append(l, api.Row{Path: path, Entry: e})
		}
		return l
	}
	x := api.Entry{Mode: api.Plain, ID: id("x")}
	f := encoded(obj.Item{Mode: api.Plain, Name: "f", ID: x.ID})
	wantTrees(t, at(x, "a/f", "b/f"), encoded(dir("a", sha.ID(f)), dir("b", sha.ID(f))), f)
	wantTrees(t, at(x, "a/a/f", "a/b/f", "b/f"), encoded(dir("a", sha.ID(encoded(dir("a", sha.ID(f)), dir("b", sha.ID(f))))), dir("b", sha.ID(f))), encoded(dir("a", sha.ID(f)), dir("b", sha.ID(f))), f)
	wantTrees(t, at(x, "a/a/f", "b/a/f"), encoded(dir("a", sha.ID(encoded(dir("a", sha.ID(f))))), dir("b", sha.ID(encoded(dir("a", sha.ID(f)))))), encoded(dir("a", sha.ID(f))), f)
	for _, other := range []api.Entry{{Mode: api.Exec, ID: id("x")}, {Mode: api.Link, ID: id("x")}, {Mode: api.Plain, ID: id("y")}} {
		g := encoded(obj.Item{Mode: other.Mode, Name: "f", ID: other.ID})
		wantTrees(t, append(at(x, "a/f"), at(other, "b/f")...), encoded(dir("a", sha.ID(f)), dir("b", sha.ID(g))), f, g)
	}
	g := encoded(obj.Item{Mode: api.Plain, Name: "g", ID: x.ID})
	wantTrees(t, at(x, "a/f", "b/g"), encoded(dir("a", sha.ID(f)), dir("b", sha.ID(g))), f, g)
}

func TestBuildOfGreatTables(t *testing.T) { // P16.2, P16.5
	var top []obj.Item
	for i := range 256 {
		top = append(top, in(fmt.Sprintf("%03d", i), api.Plain))
	}
	wantTrees(t, numbered(256), encoded(top...))

	var l []api.Row
	all := [][]byte{nil}
	top = nil
	for i := range 256 {
		name := fmt.Sprintf("%03d", i)
		path := name + "/a/a/a/a/a/" + name
		l = append(l, row(path, api.Exec))
		tree := encoded(in(path, api.Exec))
		for range 5 {
			all = append(all, tree)
			tree = encoded(dir("a", sha.ID(tree)))
		}
		all = append(all, tree)
		top = append(top, dir(name, sha.ID(tree)))
	}
	all[0] = encoded(top...)
	wantTrees(t, l, all...)
	wantRoundTrip(t, l)

	long := strings.Repeat("x", 60)
	l = nil
	for i := range 256 {
		l = append(l, row(fmt.Sprintf("%s/%s/%s/%03d/x", long, long, long[:50], i), 1+i%3))
	}
	wantRoundTrip(t, l)
}

// buildModel makes the trees from the top, by calls: what the rows of a
// directory begin with is cut away from them.
func buildModel(l []api.Row, trees map[string][]byte) string {
	within := map[string][]api.Row{}
	var items []obj.Item
	for _, r := range l {
		name, rest, deeper := strings.Cut(r.Path, "/")
		if deeper {
			within[name] = append(within[name], api.Row{Path: rest, Entry: r.Entry})
		} else {
			items = append(items, obj.Item{Mode: r.Mode, Name: r.Path, ID: r.ID})
		}
	}
	for name, rest := range within {
		items = append(items, dir(name, buildModel(rest, trees)))
	}
	slices.SortFunc(items, func(a, b obj.Item) int { return strings.Compare(a.Name, b.Name) })
	b := encoded(items...)
	trees[sha.ID(b)] = b
	return sha.ID(b)
}

// wantRoundTrip holds that the trees of a table are closed, and flatten to it.
func wantRoundTrip(t *testing.T, l []api.Row) {
	t.Helper()
	top, trees, errno := table.Build(l)
	s := shelfOf(trees)
	back, again := table.Flatten(s.source, top)
	if errno != api.OK || again != api.OK || !slices.Equal(back, l) {
		t.Errorf("Flatten of Build of %.300v = %.300v, %d, %d", l, back, errno, again)
	}
	for hash := range s {
		less := shelf{}
		for other, b := range s {
			if other != hash {
				less[other] = b
			}
		}
		if len(s) < 20 {
			wantErrno(t, less.source, top, api.ErrNone)
		}
	}
}

func TestBuildAsTheModel(t *testing.T) { // P16.2, P16.5
	r := rand.New(rand.NewSource(163))
	for range rounds(10000) {
		l := randomRows(r, r.Intn(20))
		if !mayModel(l) {
			continue
		}
		made := map[string][]byte{}
		wantTop := buildModel(l, made)
		want := [][]byte{made[wantTop]}
		for hash, b := range made {
			if hash != wantTop {
				want = append(want, b)
			}
		}
		wantTrees(t, l, want...)
		wantRoundTrip(t, l)
		if t.Failed() {
			t.FailNow()
		}
	}
}

// Unlike tables have unlike trees.
func TestTreesTellTablesApart(t *testing.T) { // P16.5
	r := rand.New(rand.NewSource(164))
	of := map[string][]api.Row{}
	for range rounds(20000) {
		l := randomRows(r, r.Intn(4))
		top, _, errno := table.Build(l)
		if errno != api.OK {
			continue
		}
		if was, ok := of[top]; ok && !slices.Equal(was, l) {
			t.Fatalf("%v and %v have one tree", was, l)
		}
		of[top] = slices.Clone(l)
	}
	if len(of) < 100 {
		t.Errorf("%d trees", len(of))
	}
}

// However a table was made, its tree hangs on its rows alone.
func TestTreeHangsOnRowsAlone(t *testing.T) { // P16.5, P0.5
	r := rand.New(rand.NewSource(165))
	for range rounds(2000) {
		l := randomRows(r, r.Intn(20))
		if !mayModel(l) {
			continue
		}
		top, trees, _ := table.Build(l)
		var other []api.Row
		for _, i := range r.Perm(len(l)) {
			other = table.Set(other, l[i].Path, api.Entry{Mode: 1, ID: id("another")})
			other = table.Set(other, "a/way", l[i].Entry)
			other = table.Set(other, l[i].Path, l[i].Entry)
		}
		other = table.Set(other, "a/way", api.Entry{})
		again, alike, errno := table.Build(other)
		if again != top || errno != api.OK || !slices.EqualFunc(trees, alike, bytes.Equal) {
			t.Fatalf("Build(%v) = %q, Build(%v) = %q, %d", l, top, other, again, errno)
		}
	}
}

// An empty directory has no row, so the tree that is built again lacks it.
func TestBuildOfFlatten(t *testing.T) { // P16.2, P16.5
	s := shelf{}
	empty := s.add()
	b := s.add(file("f"))
	lean := s.add(dir("b", b), file("c"))
	fat := s.add(dir("a", empty), dir("b", b), file("c"), dir("d", s.add(dir("e", empty))))
	for _, tree := range []string{lean, fat} {
		l, errno := table.Flatten(s.source, tree)
		top, trees, e := table.Build(l)
		if errno != api.OK || e != api.OK || top != lean || len(trees) != 2 {
			t.Errorf("Build of Flatten = %q, %d trees, %d, %d", top, len(trees), errno, e)
		}
	}
	l, _ := table.Flatten(s.source, s.add(dir("e", empty)))
	wantTrees(t, l, []byte{2, 0})
}
