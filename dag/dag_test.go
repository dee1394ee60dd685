package dag_test

import (
	"fmt"
	"math"
	"slices"
	"strings"
	"testing"

	"marline/api"
	"marline/dag"
)

// crossed is a criss-cross: B and C from A, D and E from both; F alone.
func crossed() []commit {
	return []commit{
		{"A", nil, 0}, {"B", []string{"A"}, 1}, {"C", []string{"A"}, 2}, {"D", []string{"B", "C"}, 3}, {"E", []string{"C", "B", "C"}, 4}, {"F", nil, 4},
	}
}

func made(t *testing.T, commits []commit) *dag.Graph {
	t.Helper()
	g := dag.New()
	for _, c := range commits {
		if errno := g.Add(c.id, c.parents, c.stamp); errno != api.OK {
			t.Fatalf("Add(%v) = %d", c, errno)
		}
	}
	return g
}

func TestNothingIsThere(t *testing.T) { // P11.1
	g := dag.New()
	if g.Len() != 0 || g.Has("") || g.Has("A") || g.Stamp("") != -1 || g.Stamp("A") != -1 || len(g.Parents("")) > 0 || len(g.Parents("A")) > 0 {
		t.Error("a new graph has something")
	}
}

func TestAdd(t *testing.T) { // P11.1
	g := made(t, crossed())
	if g.Len() != 6 {
		t.Errorf("Len() = %d", g.Len())
	}
	for _, c := range []struct {
		id, parents string
		stamp       int
	}{{"A", "[]", 0}, {"B", "[A]", 1}, {"C", "[A]", 2}, {"D", "[B C]", 3}, {"E", "[B C]", 4}, {"F", "[]", 4}} {
		if got := fmt.Sprint(g.Parents(c.id)); !g.Has(c.id) || got != c.parents || g.Stamp(c.id) != c.stamp {
			t.Errorf("%s: %v, Parents %s, Stamp %d", c.id, g.Has(c.id), got, g.Stamp(c.id))
		}
	}
	for _, id := range []string{"", "a", "A ", "AB", "\x00A", "X"} {
		if g.Has(id) || g.Stamp(id) != -1 || len(g.Parents(id)) > 0 {
			t.Errorf("%q: %v, Parents %q, Stamp %d", id, g.Has(id), g.Parents(id), g.Stamp(id))
		}
	}
}

// Any text that is not empty is an id.
func TestAnyTextIsAnID(t *testing.T) { // P11.1
	ids := []string{" ", "\x00", "\x00\x00", "\n", "/", "..", "é", "e\u0301", "\xff", "\xff\xfe", strings.Repeat("0", 64), strings.Repeat("x", 100000)}
	g := dag.New()
	for i, id := range ids {
		if errno := g.Add(id, ids[:i], i); errno != api.OK {
			t.Errorf("Add(%q) = %d", id, errno)
		}
		if want := slices.Sorted(slices.Values(ids[:i])); !slices.Equal(g.Parents(id), want) || g.Stamp(id) != i {
			t.Errorf("%q: Parents %q, Stamp %d", id, g.Parents(id), g.Stamp(id))
		}
	}
	if want := slices.Sorted(slices.Values(ids)); g.Len() != len(ids) || fmt.Sprint(g.Ancestors(ids[len(ids)-1:])) != fmt.Sprint(want, 0) {
		t.Errorf("Len() = %d, or Ancestors are not %q", g.Len(), want)
	}
}

// toldOf is all that a graph tells of these ids.
func toldOf(g *dag.Graph, ids []string) string {
	text := fmt.Sprint(g.Len())
	for _, id := range ids {
		text += fmt.Sprintf("; %q %v %q %d", id, g.Has(id), g.Parents(id), g.Stamp(id))
		for _, call := range []func([]string) ([]string, api.Errno){g.Ancestors, g.Tops, g.Order} {
			l, errno := call([]string{id})
			text += fmt.Sprintf(" %q %d", l, errno)
		}
	}
	return text
}

func TestAddThatMayNotBe(t *testing.T) { // P11.1, P0.2
	for _, c := range []struct {
		commit
		want api.Errno
	}{
		{commit{"", nil, 9}, api.ErrName},
		{commit{"", []string{"A"}, 9}, api.ErrName},
		{commit{"", []string{"X"}, -1}, api.ErrName},
		{commit{"", []string{""}, 0}, api.ErrName},
		{commit{"A", nil, 0}, api.ErrExists},
		{commit{"E", []string{"B", "C"}, 4}, api.ErrExists},
		{commit{"F", []string{"X"}, 9}, api.ErrExists},
		{commit{"F", []string{"E"}, 4}, api.ErrExists},
		{commit{"F", nil, -1}, api.ErrExists},
		{commit{"F", []string{"F"}, 9}, api.ErrExists},
		{commit{"G", []string{"X"}, 9}, api.ErrNone},
		{commit{"G", []string{""}, 9}, api.ErrNone},
		{commit{"G", []string{"G"}, 9}, api.ErrNone},
		{commit{"G", []string{"a"}, 9}, api.ErrNone},
		{commit{"G", []string{"A", "X"}, 9}, api.ErrNone},
		{commit{"G", []string{"X", "A"}, 9}, api.ErrNone},
		{commit{"G", []string{"A", "A", "F", "G"}, 9}, api.ErrNone},
		{commit{"G", []string{"E", "X"}, 4}, api.ErrNone},
		{commit{"G", []string{"X", "E"}, 0}, api.ErrNone},
		{commit{"G", []string{"X"}, -1}, api.ErrNone},
		{commit{"G", []string{"A"}, 0}, api.ErrRange},
		{commit{"G", []string{"E"}, 3}, api.ErrRange},
		{commit{"G", []string{"E"}, 4}, api.ErrRange},
		{commit{"G", []string{"A", "E"}, 4}, api.ErrRange},
		{commit{"G", []string{"E", "A"}, 4}, api.ErrRange},
		{commit{"G", []string{"A", "E", "B"}, 3}, api.ErrRange},
		{commit{"G", []string{"A"}, -1}, api.ErrRange},
		{commit{"G", nil, -1}, api.ErrRange},
		{commit{"G", nil, math.MinInt}, api.ErrRange},
		{commit{"G", []string{"B"}, math.MinInt}, api.ErrRange},
	} {
		g := made(t, crossed())
		ids := []string{"", "A", "B", "C", "D", "E", "F", "G", "X"}
		was := toldOf(g, ids)
		if got := g.Add(c.id, c.parents, c.stamp); got != c.want {
			t.Errorf("Add(%v) = %d, want %d", c.commit, got, c.want)
		}
		if now := toldOf(g, ids); now != was {
			t.Errorf("Add(%v) has changed the graph to\n%s, was\n%s", c.commit, now, was)
		}
		if errno := g.Add("G", []string{"F", "E"}, 5); errno != api.OK || g.Len() != 7 {
			t.Errorf("behind Add(%v): %d, Len() = %d", c.commit, errno, g.Len())
		}
	}
}

func TestStampsAtTheirEdges(t *testing.T) { // P11.1
	g := made(t, []commit{
		{"A", nil, 0}, {"a", nil, 0}, {"B", []string{"A"}, 1}, {"C", []string{"A", "B", "a"}, 2}, {"D", []string{"C"}, math.MaxInt - 1}, {"E", []string{"A", "D"}, math.MaxInt},
	})
	for _, stamp := range []int{math.MaxInt, math.MaxInt - 1, 0, -1, math.MinInt} {
		if errno := g.Add("F", []string{"E"}, stamp); errno != api.ErrRange {
			t.Errorf("Add of %d behind the greatest = %d", stamp, errno)
		}
	}
	if got, errno := g.Order([]string{"E"}); errno != api.OK || fmt.Sprint(got) != "[E D C B A a]" || g.Stamp("E") != math.MaxInt {
		t.Errorf("Order = %v, %d; Stamp = %d", got, errno, g.Stamp("E"))
	}
}

// full is a graph of as many as may be there, each from the one ahead.
func full(t *testing.T) *dag.Graph {
	t.Helper()
	g := dag.New()
	var parents []string
	for i := range api.MaxWalk {
		id := fmt.Sprint("c", i)
		if errno := g.Add(id, parents, i); errno != api.OK {
			t.Fatalf("Add(%s) = %d", id, errno)
		}
		parents = []string{id}
	}
	return g
}

func TestAddToAFullGraph(t *testing.T) { // P11.1
	g := full(t)
	for _, c := range []struct {
		commit
		want api.Errno
	}{
		{commit{"", nil, 0}, api.ErrName},
		{commit{"c7", nil, 0}, api.ErrExists},
		{commit{"X", []string{"X"}, 5000}, api.ErrNone},
		{commit{"X", []string{"c1999"}, 1999}, api.ErrRange},
		{commit{"X", nil, -1}, api.ErrRange},
		{commit{"X", []string{"c1999"}, 2000}, api.ErrLimit},
		{commit{"X", nil, 0}, api.ErrLimit},
	} {
		if got := g.Add(c.id, c.parents, c.stamp); got != c.want || g.Len() != 2000 || g.Has("X") {
			t.Errorf("Add(%v) = %d, want %d; Len() = %d", c.commit, got, c.want, g.Len())
		}
	}
}

// Doubles of a parent count for nothing, however many they are.
func TestManyParents(t *testing.T) { // P11.1
	g := made(t, crossed())
	var parents []string
	for range 50000 {
		parents = append(parents, "F", "A", "E")
	}
	if errno := g.Add("G", parents, 5); errno != api.OK || fmt.Sprint(g.Parents("G")) != "[A E F]" {
		t.Errorf("%d, %d parents", errno, len(g.Parents("G")))
	}
	if errno := g.Add("H", append(parents, "X"), 5); errno != api.ErrNone {
		t.Errorf("one of many is not there: %d", errno)
	}
}

// Each graph is one of its own.
func TestGraphsAreApart(t *testing.T) { // P11.1, P0.5
	g, h := made(t, crossed()), dag.New()
	if h.Len() != 0 || h.Has("A") || h.Add("B", []string{"A"}, 1) != api.ErrNone || h.Add("A", nil, 7) != api.OK {
		t.Error("a graph shows in another one")
	}
	if g.Stamp("A") != 0 || h.Stamp("A") != 7 || g.Len() != 6 || h.Len() != 1 {
		t.Errorf("Stamps %d, %d, Len() %d, %d", g.Stamp("A"), h.Stamp("A"), g.Len(), h.Len())
	}
}
