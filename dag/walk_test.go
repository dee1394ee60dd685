package dag_test

import (
	"fmt"
	"slices"
	"strings"
	"testing"

	"marline/api"
	"marline/dag"
)

// list is the texts of a line, one behind each space.
func list(s string) []string { return strings.Fields(s) }

func checkList(t *testing.T, name string, got []string, errno api.Errno, want string, wantErrno api.Errno) {
	t.Helper()
	if strings.Join(got, " ") != want || errno != wantErrno {
		t.Errorf("%s = %q, %d, want %s, %d", name, got, errno, want, wantErrno)
	}
}

func TestWalksOfACross(t *testing.T) { // P11.2 to P11.4
	g := made(t, crossed())
	for _, c := range []struct{ ids, all, tops, order string }{
		{"", "", "", ""},
		{"A", "A", "A", "A"},
		{"F", "F", "F", "F"},
		{"B", "A B", "B", "B A"},
		{"D", "A B C D", "D", "D C B A"},
		{"E", "A B C E", "E", "E C B A"},
		{"D E", "A B C D E", "D E", "E D C B A"},
		{"E D", "A B C D E", "D E", "E D C B A"},
		{"E F", "A B C E F", "E F", "E F C B A"},
		{"F E D C B A", "A B C D E F", "D E F", "E F D C B A"},
		{"A D", "A B C D", "D", "D C B A"},
		{"C B", "A B C", "B C", "C B A"},
		{"B C A", "A B C", "B C", "C B A"},
		{"A C A", "A C", "C", "C A"},
		{"D D D", "A B C D", "D", "D C B A"},
		{"F F", "F", "F", "F"},
		{"F A", "A F", "A F", "F A"},
	} {
		all, errno := g.Ancestors(list(c.ids))
		checkList(t, "Ancestors "+c.ids, all, errno, c.all, api.OK)
		tops, errno := g.Tops(list(c.ids))
		checkList(t, "Tops "+c.ids, tops, errno, c.tops, api.OK)
		order, errno := g.Order(list(c.ids))
		checkList(t, "Order "+c.ids, order, errno, c.order, api.OK)
	}
}

func TestWalksFromWhatIsNotThere(t *testing.T) { // P11.2 to P11.4, P0.3
	for _, g := range []*dag.Graph{made(t, crossed()), dag.New()} {
		lists := [][]string{{"X"}, {""}, {"a"}, {"X", "X"}}
		if g.Has("A") {
			lists = append(lists, []string{"A", "X"}, []string{"X", "A"}, []string{"A", "", "D"}, []string{"F", "E", "D", "C", "B", "A", "X"})
		}
		for _, ids := range lists {
			for i, call := range []func([]string) ([]string, api.Errno){g.Ancestors, g.Tops, g.Order} {
				if l, errno := call(ids); errno != api.ErrNone || len(l) > 0 {
					t.Errorf("call %d of %q = %q, %d", i, ids, l, errno)
				}
			}
		}
	}
}

func TestWalksOfNothing(t *testing.T) { // P11.2 to P11.4
	for _, g := range []*dag.Graph{made(t, crossed()), dag.New()} {
		for i, call := range []func([]string) ([]string, api.Errno){g.Ancestors, g.Tops, g.Order} {
			for _, ids := range [][]string{nil, {}} {
				if l, errno := call(ids); errno != api.OK || len(l) > 0 {
					t.Errorf("call %d of %#v = %q, %d", i, ids, l, errno)
				}
			}
		}
	}
}

func TestIs(t *testing.T) { // P11.2
	g := made(t, crossed())
	want := list("AA AB AC AD AE BB BD BE CC CD CE DD EE FF")
	for _, a := range list("A B C D E F X a") {
		for _, b := range list("A B C D E F X a") {
			if got := g.Is(a, b); got != slices.Contains(want, a+b) {
				t.Errorf("Is(%s, %s) = %v", a, b, got)
			}
		}
	}
	for _, id := range []string{"", "A", "X"} {
		if g.Is("", id) || g.Is(id, "") || dag.New().Is(id, id) {
			t.Errorf("Is of %q and the empty text, or in a graph of nothing", id)
		}
	}
}

func TestBasesOfACross(t *testing.T) { // P11.3
	g := made(t, crossed())
	for _, c := range []struct {
		a, b, want string
		errno      api.Errno
	}{
		{"D", "E", "B C", api.OK},
		{"E", "D", "B C", api.OK},
		{"D", "D", "D", api.OK},
		{"A", "A", "A", api.OK},
		{"D", "B", "B", api.OK},
		{"B", "D", "B", api.OK},
		{"B", "C", "A", api.OK},
		{"D", "A", "A", api.OK},
		{"D", "F", "", api.OK},
		{"F", "E", "", api.OK},
		{"B F", "E", "B", api.OK},
		{"F B", "C", "A", api.OK},
		{"B C", "D", "B C", api.OK},
		{"C B", "D", "B C", api.OK},
		{"C B C", "D", "B C", api.OK},
		{"A B", "D", "B", api.OK},
		{"D E", "E", "E", api.OK},
		{"D E F", "F", "F", api.OK},
		{"", "D", "", api.OK},
		{"X", "D", "", api.ErrNone},
		{"D", "X", "", api.ErrNone},
		{"X", "X", "", api.ErrNone},
		{"D X", "E", "", api.ErrNone},
		{"X D", "E", "", api.ErrNone},
		{"", "X", "", api.ErrNone},
		{"D", "", "", api.ErrNone},
		{"", "", "", api.ErrNone},
	} {
		got, errno := g.Bases(list(c.a), c.b)
		checkList(t, "Bases "+c.a+", "+c.b, got, errno, c.want, c.errno)
	}
	if got, errno := g.Bases([]string{"D", ""}, "E"); errno != api.ErrNone || len(got) > 0 {
		t.Errorf("Bases of the empty text = %q, %d", got, errno)
	}
	if got, errno := dag.New().Bases(nil, "A"); errno != api.ErrNone || len(got) > 0 {
		t.Errorf("Bases in a graph of nothing = %q, %d", got, errno)
	}
}

// A shortcut past a base makes of its ancestors no further bases; nor does a
// high stamp make one of what stands below another.
func TestBasesBehindShortcuts(t *testing.T) { // P11.3
	g := made(t, []commit{
		{"root", nil, 0}, {"low", list("root"), 1}, {"mid", list("low"), 2}, {"high", list("mid"), 3}, {"side", list("root"), 90},
		{"one", list("high low root"), 100}, {"two", list("high mid"), 101}, {"three", list("side low"), 102}, {"four", list("side mid one"), 103},
	})
	for _, c := range []struct{ a, b, want string }{
		{"one", "two", "high"}, {"one", "three", "low"}, {"two", "three", "low"}, {"three", "four", "low side"}, {"four", "two", "high"},
		{"one two", "three", "low"}, {"two three", "four", "high side"}, {"side", "one", "root"}, {"side high", "four", "high side"},
	} {
		got, errno := g.Bases(list(c.a), c.b)
		checkList(t, "Bases "+c.a+", "+c.b, got, errno, c.want, api.OK)
	}
	tops, errno := g.Tops(list("root side high two low"))
	checkList(t, "Tops", tops, errno, "side two", api.OK)
}

// Stamps come first, then the texts, byte by byte.
func TestOrderOfLikeStamps(t *testing.T) { // P11.4
	g := made(t, []commit{
		{"b", nil, 5}, {"B", nil, 5}, {"a", nil, 5}, {"aa", nil, 5}, {"10", nil, 5}, {"9", nil, 5}, {"\xff", nil, 5}, {"é", nil, 5},
		{"0", nil, 4}, {"z", nil, 6}, {"y", nil, 10},
	})
	ids := []string{"0", "\xff", "aa", "9", "é", "y", "B", "10", "a", "z", "b"}
	want := []string{"y", "z", "10", "9", "B", "a", "aa", "b", "é", "\xff", "0"}
	if got, errno := g.Order(ids); errno != api.OK || !slices.Equal(got, want) {
		t.Errorf("Order = %q, %d, want %q", got, errno, want)
	}
	want = slices.Sorted(slices.Values(ids))
	for i, call := range []func([]string) ([]string, api.Errno){g.Ancestors, g.Tops} {
		if got, errno := call(ids); errno != api.OK || !slices.Equal(got, want) {
			t.Errorf("call %d = %q, %d, want %q", i, got, errno, want)
		}
	}
}

func TestWalksOfALongChain(t *testing.T) { // P11.2 to P11.4, P0.1
	g := full(t)
	last := []string{"c1999"}
	order, errno := g.Order(last)
	if errno != api.OK || len(order) != 2000 || order[0] != "c1999" || order[1] != "c1998" || order[1999] != "c0" {
		t.Errorf("Order: %d, %d", len(order), errno)
	}
	all, errno := g.Ancestors(order)
	if errno != api.OK || !slices.Equal(all, slices.Sorted(slices.Values(order))) {
		t.Errorf("Ancestors: %d, %d", len(all), errno)
	}
	tops, errno := g.Tops(order)
	checkList(t, "Tops", tops, errno, "c1999", api.OK)
	bases, errno := g.Bases(last, "c1000")
	checkList(t, "Bases", bases, errno, "c1000", api.OK)
	if !g.Is("c0", "c1999") || g.Is("c1999", "c0") {
		t.Error("Is")
	}
}

// A ladder, of which each step comes from both of the step below: more ways
// down than could be gone one by one.
func TestWalksOfALadder(t *testing.T) { // P11.2 to P11.4, P0.1
	g := dag.New()
	var below []string
	for i := range api.MaxWalk / 2 {
		left, right := fmt.Sprint("l", i), fmt.Sprint("r", i)
		if g.Add(left, below, i) != api.OK || g.Add(right, below, i) != api.OK {
			t.Fatalf("Add of step %d", i)
		}
		below = []string{left, right}
	}
	all, errno := g.Ancestors(below)
	if errno != api.OK || len(all) != 2000 {
		t.Errorf("Ancestors: %d, %d", len(all), errno)
	}
	order, errno := g.Order([]string{"l999"})
	if errno != api.OK || len(order) != 1999 || strings.Join(order[:5], " ") != "l999 l998 r998 l997 r997" {
		t.Errorf("Order: %d, %d", len(order), errno)
	}
	bases, errno := g.Bases([]string{"l999"}, "r999")
	checkList(t, "Bases", bases, errno, "l998 r998", api.OK)
	tops, errno := g.Tops(all)
	checkList(t, "Tops", tops, errno, "l999 r999", api.OK)
	if !g.Is("l0", "r999") || g.Is("l999", "r999") {
		t.Error("Is")
	}
}

// A full graph with all the parents that may be.
func TestWalksOfAllParents(t *testing.T) { // P11.1 to P11.4, P0.1
	g := dag.New()
	most := graphs(api.MaxWalk)
	var ids []string
	for i := range most {
		id := fmt.Sprint("c", i)
		if errno := g.Add(id, ids, i); errno != api.OK || len(g.Parents(id)) != i {
			t.Fatalf("Add(%s) = %d, %d parents", id, errno, len(g.Parents(id)))
		}
		ids = append(ids, id)
	}
	last := ids[most-1]
	all, errno := g.Ancestors([]string{last})
	if errno != api.OK || !slices.Equal(all, slices.Sorted(slices.Values(ids))) {
		t.Errorf("Ancestors: %d, %d", len(all), errno)
	}
	order, errno := g.Order(ids)
	slices.Reverse(order)
	if errno != api.OK || !slices.Equal(order, ids) {
		t.Errorf("Order: %d, %d", len(order), errno)
	}
	tops, errno := g.Tops(ids)
	checkList(t, "Tops", tops, errno, last, api.OK)
	bases, errno := g.Bases(ids, ids[most/2])
	checkList(t, "Bases", bases, errno, ids[most/2], api.OK)
}
