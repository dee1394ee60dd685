package table_test

import (
	"fmt"
	"math/rand"
	"slices"
	"strings"
	"testing"

	"marline/api"
	"marline/table"
)

func TestGet(t *testing.T) { // P16.3
	l := rows("a", "a-b", "b/c", "b/d")
	for _, r := range l {
		if got := table.Get(l, r.Path); got != r.Entry {
			t.Errorf("Get(%q) = %v", r.Path, got)
		}
	}
	for _, path := range []string{"", "b", "c", "b/", "b/c/d", "A", "a ", "aa", "/a", "a\x00", strings.Repeat("a", 1000)} {
		if got := table.Get(l, path); got != (api.Entry{}) {
			t.Errorf("Get(%q) = %v", path, got)
		}
	}
	if got := table.Get(nil, "a"); got != (api.Entry{}) {
		t.Errorf("Get of no rows = %v", got)
	}
}

// Rows that are no table are asked as any others; the first counts.
func TestGetOfAnyRows(t *testing.T) { // P16.3, P0.1, P0.7
	odd := api.Entry{Mode: -7, ID: "no hash"}
	l := []api.Row{row("b", 1), row("a", 2), {Path: "b", Entry: odd}, {Path: "../x", Entry: odd}, {Path: "", Entry: odd}, {Path: "a/b", Entry: row("y", 4).Entry}}
	for path, want := range map[string]api.Entry{"a": row("a", 2).Entry, "b": row("b", 1).Entry, "../x": odd, "": odd, "a/b": row("y", 4).Entry, "x": {}} {
		if got := table.Get(l, path); got != want {
			t.Errorf("Get(%q) = %v, want %v", path, got, want)
		}
	}
}

func wantSet(t *testing.T, l []api.Row, path string, e api.Entry, want ...api.Row) {
	t.Helper()
	if got := table.Set(l, path, e); !slices.Equal(got, want) {
		t.Errorf("Set(%v, %q, %v) = %v, want %v", l, path, e, got, want)
	}
}

func TestSet(t *testing.T) { // P16.3
	a, b, c := row("a", 1), row("b", 2), row("c", 3)
	e := api.Entry{Mode: api.Exec, ID: id("new")}
	at := func(path string) api.Row { return api.Row{Path: path, Entry: e} }
	wantSet(t, nil, "a", e, at("a"))
	wantSet(t, nil, "", e, at(""))
	wantSet(t, []api.Row{b}, "a", e, at("a"), b)
	wantSet(t, []api.Row{b}, "c", e, b, at("c"))
	wantSet(t, []api.Row{b}, "b", e, at("b"))
	wantSet(t, []api.Row{a, c}, "b", e, a, at("b"), c)
	wantSet(t, []api.Row{a, b, c}, "a", e, at("a"), b, c)
	wantSet(t, []api.Row{a, b, c}, "b", e, a, at("b"), c)
	wantSet(t, []api.Row{a, b, c}, "c", e, a, b, at("c"))
	wantSet(t, []api.Row{a, b, c}, "b", b.Entry, a, b, c)
	wantSet(t, []api.Row{a, b, c}, "a0", e, a, at("a0"), b, c)
	wantSet(t, rows("a", "a0"), "a/b", e, row("a", 1), at("a/b"), row("a0", 2))
	wantSet(t, rows("a/b", "a/c"), "a", e, at("a"), row("a/b", 1), row("a/c", 2)) // others stay
	wantSet(t, []api.Row{a}, "A", e, at("A"), a)
	wantSet(t, []api.Row{a}, "no path\x00//", e, a, at("no path\x00//"))
}

func TestSetOfNothing(t *testing.T) { // P16.3
	a, b, c := row("a", 1), row("b", 2), row("c", 3)
	for _, none := range []api.Entry{{}, {ID: id("x")}, {ID: "no hash"}} {
		wantSet(t, nil, "a", none)
		wantSet(t, []api.Row{b}, "b", none)
		wantSet(t, []api.Row{b}, "a", none, b)
		wantSet(t, []api.Row{b}, "", none, b)
		wantSet(t, []api.Row{a, b, c}, "a", none, b, c)
		wantSet(t, []api.Row{a, b, c}, "b", none, a, c)
		wantSet(t, []api.Row{a, b, c}, "c", none, a, b)
		wantSet(t, rows("a", "a/b"), "a", none, row("a/b", 2))
		wantSet(t, rows("a", "a/b"), "a/b", none, row("a", 1))
		wantSet(t, rows("a/b", "a/c"), "a", none, rows("a/b", "a/c")...)
	}
}

// Whatever the rows and the entry are: behind Set it is there, and they rise.
func TestSetOfAnyRows(t *testing.T) { // P16.3, P0.1
	a, b, c := row("a", 1), row("b", 2), row("c", 3)
	odd := api.Entry{Mode: -7, ID: "no hash"}
	wantSet(t, []api.Row{c, a}, "b", b.Entry, a, b, c)
	wantSet(t, []api.Row{c, b, a}, "b", api.Entry{}, a, c)
	wantSet(t, []api.Row{c, b, a}, "x", api.Entry{}, a, b, c)
	wantSet(t, []api.Row{c, b, a}, "b", odd, a, api.Row{Path: "b", Entry: odd}, c)
	wantSet(t, []api.Row{a, b}, "c", api.Entry{Mode: api.Dir}, a, b, api.Row{Path: "c", Entry: api.Entry{Mode: api.Dir}})
	other := api.Row{Path: "b", Entry: odd}
	wantSet(t, []api.Row{other, a, b, b, c}, "b", row("x", 1).Entry, a, api.Row{Path: "b", Entry: row("x", 1).Entry}, c)
	wantSet(t, []api.Row{b, a, b, c, other}, "b", api.Entry{}, a, c)
	wantSet(t, numbered(256), "x", a.Entry, append(numbered(256), api.Row{Path: "x", Entry: a.Entry})...)
	wantSet(t, numbered(300), "100", api.Entry{}, slices.Concat(numbered(100), numbered(300)[101:])...)
}

// What Get tells of other paths stays, also where they stand twice.
func TestSetKeepsOthers(t *testing.T) { // P16.3
	var l []api.Row
	for i := range 300 {
		l = append(l, api.Row{Path: fmt.Sprint(i * 7 % 10), Entry: row(fmt.Sprint(i), 1+i%3).Entry})
	}
	for _, e := range []api.Entry{{}, row("x", 1).Entry} {
		with := table.Set(l, "5", e)
		for i := range 10 {
			path, want := fmt.Sprint(i), table.Get(l, fmt.Sprint(i))
			if i == 5 {
				want = e
			}
			if got := table.Get(with, path); got != want {
				t.Errorf("behind Set(.., %v): Get(%q) = %v, want %v", e, path, got, want)
			}
		}
	}
}

// A table is changed as a map is that is told in the order of its keys.
func TestSetAsTheModel(t *testing.T) { // P16.3
	r := rand.New(rand.NewSource(166))
	for range rounds(1000) {
		var l []api.Row
		at := map[string]api.Entry{}
		for range r.Intn(40) {
			path := []string{"", "a", "a-b", "a/b", "a0", "b", "b/c", "~"}[r.Intn(8)]
			e := api.Entry{Mode: r.Intn(4), ID: id([]string{"x", "y"}[r.Intn(2)])}
			l = table.Set(l, path, e)
			at[path] = e
			if e.Mode == 0 {
				delete(at, path)
			}
			var want []api.Row
			for _, path := range []string{"", "a", "a-b", "a/b", "a0", "b", "b/c", "~"} {
				if e, ok := at[path]; ok {
					want = append(want, api.Row{Path: path, Entry: e})
				}
				if got := table.Get(l, path); got != at[path] {
					t.Fatalf("Get(%v, %q) = %v, want %v", l, path, got, at[path])
				}
			}
			if !slices.Equal(l, want) {
				t.Fatalf("Set(.., %q, %v) = %v, want %v", path, e, l, want)
			}
		}
	}
}

func TestPaths(t *testing.T) { // P16.3
	for _, c := range []struct {
		want   string
		tables [][]api.Row
	}{
		{"[]", nil}, {"[]", [][]api.Row{nil}}, {"[]", [][]api.Row{nil, {}, nil}},
		{"[a]", [][]api.Row{rows("a")}}, {"[a b]", [][]api.Row{rows("a", "b")}}, {"[a b]", [][]api.Row{rows("b", "a")}}, {"[a]", [][]api.Row{rows("a"), rows("a"), rows("a")}},
		{"[a b c]", [][]api.Row{rows("b"), rows("a", "c")}}, {"[a b c]", [][]api.Row{rows("b", "c"), nil, rows("a", "c")}}, {"[a b c d]", [][]api.Row{rows("d"), rows("c"), rows("b"), rows("a")}},
		{"[A a a! a/b a0]", [][]api.Row{rows("a", "a/b"), rows("a!", "a0"), rows("A", "a")}}, {"[a b]", [][]api.Row{rows("a", "a", "b", "a")}},
		{"[ ../x a]", [][]api.Row{rows("a", ""), rows("../x")}}, // whatever stands as a path
	} {
		if got := fmt.Sprint(table.Paths(c.tables...)); got != c.want {
			t.Errorf("Paths(%v) = %s, want %s", c.tables, got, c.want)
		}
	}
	// What stands there doesn't count: nothing either.
	if got := table.Paths([]api.Row{row("b", 0)}, []api.Row{{Path: "a"}, row("b", 1)}); !slices.Equal(got, []string{"a", "b"}) {
		t.Errorf("Paths = %q", got)
	}
}

func TestSame(t *testing.T) { // P16.3
	l := rows("a", "b/c", "d")
	if !table.Same(l, slices.Clone(l)) || !table.Same(nil, nil) || !table.Same(nil, []api.Row{}) || !table.Same([]api.Row{}, nil) || !table.Same(l[:0], nil) {
		t.Error("the same rows are not")
	}
	others := [][]api.Row{nil, l[:1], l[:2], l[1:], append(slices.Clone(l), row("e", 1)), append(rows("!"), l...), {l[0], l[2], l[1]}, {l[0], l[0], l[1]}}
	for i := range l {
		for _, other := range []api.Row{
			{Path: l[i].Path + "x", Entry: l[i].Entry}, {Path: "", Entry: l[i].Entry}, {Path: l[i].Path, Entry: api.Entry{Mode: l[i].Mode + 1, ID: l[i].ID}},
			{Path: l[i].Path, Entry: api.Entry{Mode: l[i].Mode, ID: id("x")}}, {Path: l[i].Path}, {},
		} {
			changed := slices.Clone(l)
			changed[i] = other
			others = append(others, changed)
		}
	}
	for _, other := range others {
		if table.Same(l, other) || table.Same(other, l) || !table.Same(other, slices.Clone(other)) {
			t.Errorf("Same(%v, %v)", l, other)
		}
	}
}
