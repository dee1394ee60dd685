package reach_test

import (
	"math"
	"slices"
	"strings"
	"testing"

	"marline/api"
	"marline/obj"
	"marline/reach"
)

// wantClosure holds what Closure and Whole answer.
func wantClosure(t *testing.T, src reach.Source, ids []string, most int, told, lacking []string, want api.Errno) {
	t.Helper()
	gotTold, gotLacking, errno := reach.Closure(src, ids, most)
	if errno != want || !slices.Equal(gotTold, told) || !slices.Equal(gotLacking, lacking) {
		t.Errorf("Closure(%q, %d) = %q, %q, %d, want %q, %q, %d", ids, most, gotTold, gotLacking, errno, told, lacking, want)
	}
	if whole := reach.Whole(src, ids, most); whole != (want == api.OK && len(lacking) == 0) {
		t.Errorf("Whole(%q, %d) = %v", ids, most, whole)
	}
}

func TestClosure(t *testing.T) { // P12.1, P12.3
	s := newSmall()
	for _, c := range []struct{ ids, told, lacking []string }{
		{nil, nil, nil},
		{[]string{}, nil, nil},
		{[]string{s.x}, []string{s.x}, nil},
		{[]string{s.empty}, []string{s.empty}, nil},
		{[]string{s.sub}, sorted(s.sub, s.x), nil},
		{[]string{s.top}, sorted(s.top, s.sub, s.x, s.y), nil},
		{[]string{s.one}, sorted(s.one, s.empty), nil}, // the example
		{[]string{s.two}, sorted(s.two, s.top, s.sub, s.x, s.y, s.one, s.empty), nil},
		{[]string{s.three}, sorted(s.three, s.two, s.top, s.sub, s.x, s.y, s.one, s.empty), nil},
		{[]string{s.two, s.three, s.two, s.x}, sorted(s.three, s.two, s.top, s.sub, s.x, s.y, s.one, s.empty), nil},
		{[]string{s.one, s.sub}, sorted(s.one, s.empty, s.sub, s.x), nil},
		{[]string{s.gone}, nil, []string{s.gone}},
		{[]string{s.gone, s.gone}, nil, []string{s.gone}},
		{[]string{s.raw}, nil, []string{s.raw}},
		{[]string{s.gone, s.x, s.raw, s.y}, sorted(s.x, s.y), sorted(s.gone, s.raw)},
		{[]string{s.torn}, sorted(s.torn, s.two, s.top, s.sub, s.x, s.y, s.one, s.empty), []string{s.gone}},
		{[]string{s.torn, s.raw, "", "z"}, sorted(s.torn, s.two, s.top, s.sub, s.x, s.y, s.one, s.empty), sorted("", s.raw, s.gone, "z")},
		{[]string{strings.ToUpper(s.x)}, nil, []string{strings.ToUpper(s.x)}},
	} {
		n := len(c.told) + len(c.lacking)
		for _, most := range []int{n, n + 1, 1999, api.MaxWalk} {
			if most > 0 {
				wantClosure(t, s.source, c.ids, most, c.told, c.lacking, api.OK)
			}
		}
		for most := 1; most < n; most++ {
			wantClosure(t, s.source, c.ids, most, nil, nil, api.ErrLimit)
		}
	}
}

func TestMostThatMayNotBe(t *testing.T) { // P12.1 to P12.3
	s := newSmall()
	src, times := counted(s.shelf)
	for _, most := range []int{0, -1, math.MinInt, 2001, math.MaxInt, 1 << 32} {
		for _, ids := range [][]string{nil, {s.one}, {s.gone}, {s.raw}, {s.three, s.gone}} {
			wantClosure(t, src, ids, most, nil, nil, api.ErrRange)
			wantDiff(t, src, ids, nil, most, nil, api.ErrRange)
			wantDiff(t, src, nil, ids, most, nil, api.ErrRange)
			if g, errno := reach.Graph(src, ids, most); g != nil || errno != api.ErrRange {
				t.Errorf("Graph(%q, %d) = %v, %d", ids, most, g, errno)
			}
		}
	}
	if len(times) > 0 {
		t.Errorf("asked of %v", times)
	}
}

// Bytes that are no object are not told, whatever they look like.
func TestWhatIsNoObject(t *testing.T) { // P12.1
	s := newSmall()
	tree, commit := encoded(treeOf(s.x)), encoded(commitOf(3, s.empty, s.one))
	for _, b := range [][]byte{
		nil, {}, {0}, {4}, {255}, {obj.Tree}, tree[:len(tree)-1], append(slices.Clone(tree), 0), commit[:65], append(slices.Clone(commit), 1),
		append([]byte{obj.Blob}, make([]byte, api.MaxObj+1)...),
	} {
		s.shelf["it"] = b
		wantClosure(t, s.source, []string{"it"}, 9, nil, []string{"it"}, api.OK)
		wantClosure(t, s.source, []string{"it", s.sub}, 9, sorted(s.sub, s.x), []string{"it"}, api.OK)
		wantDiff(t, s.source, []string{"it", s.sub}, nil, 9, nil, api.ErrNone)
	}
	for _, b := range [][]byte{{obj.Blob}, append([]byte{obj.Blob}, make([]byte, api.MaxObj)...), {obj.Tree, 0}} {
		s.shelf["it"] = b
		wantClosure(t, s.source, []string{"it"}, 9, []string{"it"}, nil, api.OK)
	}
}

// What a source says beside false is not what it has.
func TestBesideFalse(t *testing.T) { // P12.1 to P12.3
	s := newSmall()
	src := func(id string) ([]byte, bool) { return s.shelf[id], false }
	wantClosure(t, src, []string{s.one}, 9, nil, []string{s.one}, api.OK)
	wantDiff(t, src, []string{s.one}, nil, 9, nil, api.ErrNone)
	wantGraphErrno(t, src, []string{s.one}, 9, api.ErrNone)
}

// A source that is none, or panics, has told nothing.
func TestSourcesThatPanic(t *testing.T) { // P12.1 to P12.3, P0.1
	s := newSmall()
	for _, src := range []reach.Source{nil, func(string) ([]byte, bool) { panic("no") }, func(string) ([]byte, bool) { var l []string; return []byte(l[0]), true }} {
		wantClosure(t, src, nil, 1, nil, nil, api.OK)
		wantClosure(t, src, []string{s.two, s.one}, 2, nil, sorted(s.one, s.two), api.OK)
		wantClosure(t, src, []string{s.two, s.one}, 1, nil, nil, api.ErrLimit)
		wantDiff(t, src, nil, []string{s.one}, 1, nil, api.OK)
		wantDiff(t, src, []string{s.one}, []string{s.one}, 1, nil, api.ErrNone)
		wantGraphErrno(t, src, []string{s.one}, 1, api.ErrNone)
		if g, errno := reach.Graph(src, nil, 1); errno != api.OK || g.Len() != 0 {
			t.Errorf("Graph of none: %d", errno)
		}
	}
	some := func(id string) ([]byte, bool) {
		if id == s.sub || id == s.one {
			panic(id)
		}
		return s.source(id)
	}
	wantClosure(t, some, []string{s.two}, 9, sorted(s.two, s.top, s.x, s.y), sorted(s.sub, s.one), api.OK)
	wantGraphErrno(t, some, []string{s.two}, 9, api.ErrNone)
}

func TestClosureAsksOnce(t *testing.T) { // P12.1
	s := newSmall()
	for _, ids := range [][]string{nil, {s.x}, {s.three, s.two, s.three}, {s.torn, s.raw, s.gone, s.raw}, {s.x, s.y, s.sub, s.top}} {
		told, lacking, _ := reach.Closure(s.source, ids, 99)
		src, times := counted(s.shelf)
		reach.Closure(src, ids, 99)
		wantOnce(t, "Closure", times, slices.Concat(told, lacking))
		src, times = counted(s.shelf)
		reach.Whole(src, ids, 99)
		wantOnce(t, "Whole", times, slices.Concat(told, lacking))
	}
}

// It ends where a source tells objects that come from themselves.
func TestClosureOfARing(t *testing.T) { // P12.1, P0.1
	s := shelf{made(1): encoded(treeOf(made(1))), made(2): encoded(treeOf(made(3), made(2))), made(3): encoded(treeOf(made(2), made(2))), made(4): encoded(commitOf(1, made(4), made(4), made(5))), made(5): encoded(commitOf(1, made(2), made(4)))}
	wantClosure(t, s.source, []string{made(1)}, 1, []string{made(1)}, nil, api.OK)
	wantClosure(t, s.source, []string{made(3)}, 2, []string{made(2), made(3)}, nil, api.OK)
	wantClosure(t, s.source, []string{made(4)}, 4, []string{made(2), made(3), made(4), made(5)}, nil, api.OK)
	wantClosure(t, s.source, []string{made(4)}, 3, nil, nil, api.ErrLimit)
}

// The greatest closures: trees one in the other, a tree in each; trees that
// all name as many as they may.
func TestGreatClosures(t *testing.T) { // P12.1, P12.3
	chain := shelf{}
	var all []string
	id := chain.add(treeOf())
	for range api.MaxWalk {
		all = append(all, id)
		id = chain.add(treeOf(id))
	}
	last := all[len(all)-1:]
	wantClosure(t, chain.source, last, 2000, sorted(all...), nil, api.OK)
	wantClosure(t, chain.source, last, 1999, nil, nil, api.ErrLimit)
	wantClosure(t, chain.source, []string{id}, 2000, nil, nil, api.ErrLimit)
	wantClosure(t, chain.source, all, 2000, sorted(all...), nil, api.OK)
	wantClosure(t, chain.source, append(slices.Clone(all), id), 2000, nil, nil, api.ErrLimit)

	wide := shelf{}
	all = nil
	for i := range api.MaxWalk {
		var items []string
		for j := range api.MaxFiles {
			items = append(items, made((i*7+j)%api.MaxWalk))
		}
		wide[made(i)] = encoded(treeOf(items...))
		all = append(all, made(i))
	}
	wantClosure(t, wide.source, all[:1], 2000, sorted(all...), nil, api.OK)
	wide[made(77)] = encoded(treeOf("f" + made(0)[1:]))
	wantClosure(t, wide.source, all[:1], 2000, nil, nil, api.ErrLimit)
}

// Many ids at once, told or not.
func TestManyIDs(t *testing.T) { // P12.1
	s := newSmall()
	var ids, lacking []string
	for i := range 100000 {
		ids = append(ids, made(100+i%1999), s.x)
	}
	for i := range 1999 {
		lacking = append(lacking, made(100+i))
	}
	wantClosure(t, s.source, ids, 2000, []string{s.x}, lacking, api.OK)
	wantClosure(t, s.source, ids, 1999, nil, nil, api.ErrLimit)
	wantClosure(t, s.source, append(ids, s.y), 2000, nil, nil, api.ErrLimit)
}
