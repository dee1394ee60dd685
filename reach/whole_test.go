package reach_test

import (
	"fmt"
	"math/rand"
	"slices"
	"testing"

	"marline/api"
	"marline/reach"
)

// toldOf is all that the calls answer.
func toldOf(s shelf, ids, haves []string, most int) []byte {
	told, lacking, errno := reach.Closure(s.source, ids, most)
	diff, diffErrno := reach.Diff(s.source, ids, haves, most)
	text := fmt.Appendf(nil, "%q %q %d %q %d %v", told, lacking, errno, diff, diffErrno, reach.Whole(s.source, ids, most))
	g, graphErrno := reach.Graph(s.source, ids, most)
	if g == nil {
		return fmt.Appendf(text, " %d", graphErrno)
	}
	order, _ := g.Order(ids)
	for _, id := range order {
		text = fmt.Appendf(text, " %s %q %d", id, g.Parents(id), g.Stamp(id))
	}
	return text
}

// What the objects of a closure name is in it, told or not; and it has nothing
// else: without any one hash that was not asked for, something names it.
func TestAClosureIsClosed(t *testing.T) { // P12.5
	r := rand.New(rand.NewSource(15))
	for round := range rounds(5000) {
		n := 1 + r.Intn(15)
		s, ids := random(r, n, round%2 == 0), pickIDs(r, n)
		told, lacking, errno := reach.Closure(s.source, ids, api.MaxWalk)
		all := slices.Concat(told, lacking)
		if errno != api.OK || !containsAll(all, ids) || !slices.IsSorted(told) || !slices.IsSorted(lacking) {
			t.Fatalf("%q: Closure(%q) = %q, %q, %d", s, ids, told, lacking, errno)
		}
		for i, id := range all {
			if _, isObject := s.objectOf(id); isObject != (i < len(told)) || !containsAll(all, s.refsOf(id)) || slices.Contains(all[i+1:], id) {
				t.Fatalf("%q: Closure(%q) = %q, %q: of %s", s, ids, told, lacking, id)
			}
			named := slices.ContainsFunc(told, func(from string) bool { return slices.Contains(s.refsOf(from), id) })
			if !named && !slices.Contains(ids, id) {
				t.Fatalf("%q: Closure(%q) = %q, %q: nothing names %s", s, ids, told, lacking, id)
			}
		}
		again, lack, _ := reach.Closure(s.source, all, api.MaxWalk)
		if !slices.Equal(again, told) || !slices.Equal(lack, lacking) {
			t.Fatalf("%q: the closure of Closure(%q) = %q, %q", s, ids, again, lack)
		}
	}
}

func containsAll(l, some []string) bool {
	return !slices.ContainsFunc(some, func(id string) bool { return !slices.Contains(l, id) })
}

// A Diff and the closure of haves have all of the closure of wants, and they
// have nothing in common.
func TestDiffAndHavesHaveAll(t *testing.T) { // P12.5
	r := rand.New(rand.NewSource(16))
	fine := 0
	for round := range rounds(8000) {
		n := 1 + r.Intn(15)
		s := random(r, n, round%4 > 0)
		delete(s, made(n+1))
		s[made(n+1)] = encoded(blobOf("there"))
		wants, haves := pickIDs(r, n), pickIDs(r, n)
		diff, errno := reach.Diff(s.source, wants, haves, api.MaxWalk)
		if errno != api.OK {
			continue
		}
		fine++
		ofWants, _, _ := reach.Closure(s.source, wants, api.MaxWalk)
		ofHaves, lacking, _ := reach.Closure(s.source, haves, api.MaxWalk)
		had := slices.Concat(ofHaves, lacking)
		if !containsAll(slices.Concat(diff, had), ofWants) || !containsAll(ofWants, diff) || !slices.IsSorted(diff) {
			t.Fatalf("%q: Diff(%q, %q) = %q", s, wants, haves, diff)
		}
		if slices.ContainsFunc(diff, func(id string) bool { return slices.Contains(had, id) }) {
			t.Fatalf("%q: Diff(%q, %q) = %q has something of the haves", s, wants, haves, diff)
		}
	}
	if fine < rounds(4000) {
		t.Errorf("few that are OK: %d", fine)
	}
}
