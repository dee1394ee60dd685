package reach_test

import (
	"slices"
	"testing"

	"marline/api"
	"marline/dag"
	"marline/obj"
	"marline/reach"
)

func wantGraphErrno(t *testing.T, src reach.Source, ids []string, most int, want api.Errno) {
	t.Helper()
	if g, errno := reach.Graph(src, ids, most); g != nil || errno != want {
		t.Errorf("Graph(%q, %d) = %v, %d, want %d", ids, most, g, errno, want)
	}
}

// node is what a graph tells of a commit.
type node struct {
	id      string
	parents []string
	stamp   int
}

// wantNodes holds that g has just these.
func wantNodes(t *testing.T, g *dag.Graph, errno api.Errno, want ...node) {
	t.Helper()
	if errno != api.OK || g == nil || g.Len() != len(want) {
		t.Errorf("Graph: %d, %v, want %d commits", errno, g, len(want))
		return
	}
	for _, n := range want {
		if !g.Has(n.id) || g.Stamp(n.id) != n.stamp || !slices.Equal(g.Parents(n.id), sorted(n.parents...)) {
			t.Errorf("Graph: of %s Parents %q, Stamp %d, want %q, %d", n.id, g.Parents(n.id), g.Stamp(n.id), n.parents, n.stamp)
		}
	}
}

func TestGraph(t *testing.T) { // P12.3
	s := newSmall()
	one, two := node{s.one, nil, 1}, node{s.two, []string{s.one}, 2}
	three, torn := node{s.three, []string{s.one, s.two}, 7}, node{s.torn, []string{s.two}, 9}
	for _, c := range []struct {
		ids  []string
		want []node
	}{
		{nil, nil},
		{[]string{s.one}, []node{one}},
		{[]string{s.one, s.one}, []node{one}},
		{[]string{s.two}, []node{one, two}},
		{[]string{s.one, s.two}, []node{one, two}},
		{[]string{s.three}, []node{one, two, three}},
		{[]string{s.two, s.three, s.one, s.two}, []node{one, two, three}},
		{[]string{s.torn}, []node{one, two, torn}}, // its tree is not told, and is none of the graph
		{[]string{s.torn, s.three}, []node{one, two, three, torn}},
	} {
		for _, most := range []int{max(1, len(c.want)), len(c.want) + 1, api.MaxWalk} {
			g, errno := reach.Graph(s.source, c.ids, most)
			wantNodes(t, g, errno, c.want...)
		}
		for most := 1; most < len(c.want); most++ {
			wantGraphErrno(t, s.source, c.ids, most, api.ErrLimit)
		}
	}
}

func TestGraphThatMayNotBe(t *testing.T) { // P12.3
	s := newSmall()
	orphan := s.add(commitOf(9, s.empty, s.gone))
	half := s.add(commitOf(9, s.empty, s.gone, s.two))
	below := s.add(commitOf(10, s.empty, orphan))
	ofTree := s.add(commitOf(9, s.empty, s.empty))
	ofBlob := s.add(commitOf(9, s.empty, s.two, s.x))
	ofRaw := s.add(commitOf(9, s.empty, s.raw))
	late := s.add(commitOf(7, s.empty, s.three))
	later := s.add(commitOf(6, s.empty, s.three))
	ofLate := s.add(commitOf(8, s.empty, late))
	halfLate := s.add(commitOf(7, s.empty, s.one, s.three))
	first := s.add(commitOf(0, s.empty))
	ofFirst := s.add(commitOf(0, s.empty, first))
	s.shelf["nothing"], s.shelf["short"] = nil, encoded(commitOf(1, s.empty))[:36]
	for _, c := range []struct {
		ids  []string
		want api.Errno
	}{
		{[]string{s.gone}, api.ErrNone}, {[]string{""}, api.ErrNone}, {[]string{"x"}, api.ErrNone}, {[]string{s.three, s.gone}, api.ErrNone}, {[]string{s.gone, s.three}, api.ErrNone},
		{[]string{orphan}, api.ErrNone}, {[]string{half}, api.ErrNone}, {[]string{below}, api.ErrNone}, {[]string{s.one, below}, api.ErrNone},
		{[]string{s.empty}, api.ErrForm}, {[]string{s.top}, api.ErrForm}, {[]string{s.x}, api.ErrForm}, {[]string{s.raw}, api.ErrForm}, {[]string{"nothing"}, api.ErrForm}, {[]string{"short"}, api.ErrForm},
		{[]string{s.three, s.x}, api.ErrForm}, {[]string{s.x, s.three}, api.ErrForm}, {[]string{ofTree}, api.ErrForm}, {[]string{ofBlob}, api.ErrForm}, {[]string{ofRaw}, api.ErrForm},
		{[]string{late}, api.ErrRange}, {[]string{later}, api.ErrRange}, {[]string{ofLate}, api.ErrRange}, {[]string{halfLate}, api.ErrRange}, {[]string{s.one, late, s.three}, api.ErrRange}, {[]string{ofFirst}, api.ErrRange},
	} {
		wantGraphErrno(t, s.source, c.ids, 9, c.want)
		wantGraphErrno(t, s.source, c.ids, api.MaxWalk, c.want)
	}
}

// A graph has no empty id: dag says so, and that goes up.
func TestGraphOfAnEmptyID(t *testing.T) { // P12.3, P0.2
	s := newSmall()
	s.shelf[""] = encoded(commitOf(3, s.empty, s.one))
	wantGraphErrno(t, s.source, []string{""}, 9, api.ErrName)
	wantGraphErrno(t, s.source, []string{s.two, ""}, 9, api.ErrName)
	told, lacking, errno := reach.Closure(s.source, []string{""}, 9)
	if errno != api.OK || !slices.Equal(told, sorted("", s.one, s.empty)) || len(lacking) > 0 {
		t.Errorf("Closure = %q, %q, %d", told, lacking, errno)
	}
}

// Any of the errors that hold may be told, but no other one.
func TestSeveralErrorsOfAGraph(t *testing.T) { // P12.3
	s := newSmall()
	late := s.add(commitOf(7, s.empty, s.three))
	for _, c := range []struct {
		ids  []string
		most int
		want []api.Errno
	}{
		{[]string{s.gone, s.x}, 9, []api.Errno{api.ErrNone, api.ErrForm}},
		{[]string{s.x, s.gone}, 9, []api.Errno{api.ErrNone, api.ErrForm}},
		{[]string{late, s.x}, 9, []api.Errno{api.ErrForm, api.ErrRange}},
		{[]string{late, s.gone}, 9, []api.Errno{api.ErrNone, api.ErrRange}},
		{[]string{s.gone, late, s.raw}, 9, []api.Errno{api.ErrNone, api.ErrForm, api.ErrRange}},
		{[]string{s.three, s.x}, 3, []api.Errno{api.ErrLimit, api.ErrForm}},
		{[]string{s.gone, s.three}, 3, []api.Errno{api.ErrLimit, api.ErrNone}},
		{[]string{late}, 3, []api.Errno{api.ErrLimit, api.ErrRange}},
	} {
		if g, errno := reach.Graph(s.source, c.ids, c.most); g != nil || !slices.Contains(c.want, errno) {
			t.Errorf("Graph(%q, %d) = %v, %d, want one of %d", c.ids, c.most, g, errno, c.want)
		}
	}
}

// Only commits are asked of, each once.
func TestGraphAsksOnce(t *testing.T) { // P12.3
	s := newSmall()
	for _, c := range []struct{ ids, want []string }{
		{nil, nil}, {[]string{s.one}, []string{s.one}}, {[]string{s.three, s.two, s.three}, []string{s.one, s.two, s.three}}, {[]string{s.torn}, []string{s.one, s.two, s.torn}},
	} {
		src, times := counted(s.shelf)
		reach.Graph(src, c.ids, 99)
		wantOnce(t, "Graph", times, c.want)
	}
}

// A source may tell commits that come from themselves.
func TestGraphOfARing(t *testing.T) { // P12.3, P0.1
	s := newSmall()
	s.shelf[made(5)] = encoded(commitOf(5, s.empty, made(5)))
	s.shelf[made(6)] = encoded(commitOf(6, s.empty, made(7)))
	s.shelf[made(7)] = encoded(commitOf(7, s.empty, made(8), s.one))
	s.shelf[made(8)] = encoded(commitOf(8, s.empty, made(6), s.two))
	s.shelf[made(9)] = encoded(commitOf(9, s.empty, made(8)))
	for _, ids := range [][]string{{made(5)}, {made(6)}, {made(7)}, {made(8)}, {made(9)}, {s.three, made(7)}} {
		wantGraphErrno(t, s.source, ids, 9, api.ErrRange)
	}
	wantGraphErrno(t, s.source, []string{made(9)}, 5, api.ErrLimit)
}

func TestStampsAtTheirEdges(t *testing.T) { // P12.3
	s := shelf{}
	tree := s.add(treeOf())
	zero, one := s.add(commitOf(0, tree)), s.add(obj.Obj{Kind: obj.Commit, Tree: tree, Author: 9, Msg: "one"})
	high := s.add(commitOf(1<<40-1, tree, zero, one))
	highest := s.add(commitOf(1<<40, tree, high, zero))
	over := s.add(commitOf(1<<40, tree, highest))
	g, errno := reach.Graph(s.source, []string{highest}, 4)
	wantNodes(t, g, errno, node{zero, nil, 0}, node{one, nil, 0}, node{high, []string{zero, one}, 1<<40 - 1}, node{highest, []string{high, zero}, 1 << 40})
	wantGraphErrno(t, s.source, []string{over}, 9, api.ErrRange)
}

// A long chain, and a ladder with more ways down than could be gone one by one.
func TestGreatGraphs(t *testing.T) { // P12.3
	s := shelf{}
	tree := s.add(treeOf())
	var chain []node
	var parents []string
	for i := range api.MaxWalk {
		id := s.add(commitOf(i, tree, parents...))
		chain = append(chain, node{id, parents, i})
		parents = []string{id}
	}
	g, errno := reach.Graph(s.source, parents, 2000)
	wantNodes(t, g, errno, chain...)
	wantGraphErrno(t, s.source, parents, 1999, api.ErrLimit)
	wantGraphErrno(t, s.source, []string{s.add(commitOf(5000, tree, parents...))}, 2000, api.ErrLimit)

	var ladder []node
	parents = nil
	for i := range api.MaxWalk / 2 {
		left, right := s.add(commitOf(2*i, tree, parents...)), s.add(obj.Obj{Kind: obj.Commit, Tree: tree, Parents: parents, Stamp: 2*i + 1, Msg: "right"})
		ladder = append(ladder, node{left, parents, 2 * i}, node{right, parents, 2*i + 1})
		parents = sorted(left, right)
	}
	g, errno = reach.Graph(s.source, parents, 2000)
	wantNodes(t, g, errno, ladder...)
	wantGraphErrno(t, s.source, parents, 1999, api.ErrLimit)
	if !g.Is(ladder[0].id, ladder[1999].id) || g.Is(ladder[1998].id, ladder[1999].id) {
		t.Error("Is")
	}
}
