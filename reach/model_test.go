package reach_test

import (
	"bytes"
	"math/rand"
	"slices"
	"testing"

	"marline/api"
	"marline/obj"
	"marline/reach"
)

// rounds is how many runs of many a test takes.
func rounds(n int) int {
	if testing.Short() {
		return n / 10
	}
	return n
}

// objectOf is what a shelf has of id; false, if that is none.
func (s shelf) objectOf(id string) (obj.Obj, bool) {
	b, ok := s[id]
	o, errno := obj.Decode(b)
	return o, ok && errno == api.OK
}

// parentsOf is what a commit comes from; of others none.
func (s shelf) parentsOf(id string) []string {
	o, ok := s.objectOf(id)
	if !ok || o.Kind != obj.Commit {
		return nil
	}
	return o.Parents
}

func (s shelf) refsOf(id string) []string {
	o, ok := s.objectOf(id)
	switch {
	case ok && o.Kind == obj.Commit:
		return append([]string{o.Tree}, o.Parents...)
	case ok && o.Kind == obj.Tree:
		var ids []string
		for _, item := range o.Items {
			ids = append(ids, item.ID)
		}
		return ids
	}
	return nil
}

// reached says the chapter's words in another way: all are gone through again
// and again, until nothing comes to them; rising.
func reached(ids []string, next func(string) []string) []string {
	all := slices.Compact(sorted(ids...))
	for {
		more := slices.Clone(all)
		for _, id := range all {
			more = append(more, next(id)...)
		}
		slices.Sort(more)
		more = slices.Compact(more)
		if len(more) == len(all) {
			return all
		}
		all = more
	}
}

func (s shelf) closure(ids []string, most int) (told, lacking []string, errno api.Errno) {
	if most < 1 || most > 2000 {
		return nil, nil, api.ErrRange
	}
	all := reached(ids, s.refsOf)
	if len(all) > most {
		return nil, nil, api.ErrLimit
	}
	for _, id := range all {
		if _, ok := s.objectOf(id); ok {
			told = append(told, id)
		} else {
			lacking = append(lacking, id)
		}
	}
	return told, lacking, api.OK
}

func (s shelf) diff(wants, haves []string, most int) ([]string, api.Errno) {
	told, lacking, errno := s.closure(wants, most)
	if errno != api.OK {
		return nil, errno
	}
	had, _, errno := s.closure(haves, most)
	if errno == api.OK && len(lacking) > 0 {
		errno = api.ErrNone
	}
	if errno != api.OK {
		return nil, errno
	}
	return slices.DeleteFunc(told, func(id string) bool { return slices.Contains(had, id) }), api.OK
}

// graph is the nodes, and the errors that hold.
func (s shelf) graph(ids []string, most int) (nodes []node, errnos []api.Errno) {
	if most < 1 || most > 2000 {
		return nil, []api.Errno{api.ErrRange}
	}
	all := reached(ids, s.parentsOf)
	if len(all) > most {
		errnos = append(errnos, api.ErrLimit)
	}
	for _, id := range all {
		_, there := s[id]
		o, ok := s.objectOf(id)
		switch {
		case !there:
			errnos = append(errnos, api.ErrNone)
		case !ok || o.Kind != obj.Commit:
			errnos = append(errnos, api.ErrForm)
		case slices.ContainsFunc(o.Parents, func(p string) bool { return s.stamp(p) >= o.Stamp }):
			errnos = append(errnos, api.ErrRange)
		}
		nodes = append(nodes, node{id, o.Parents, o.Stamp})
	}
	return nodes, errnos
}

// stamp is a commit's; of others -1, which is below all.
func (s shelf) stamp(id string) int {
	if o, ok := s.objectOf(id); ok && o.Kind == obj.Commit {
		return o.Stamp
	}
	return -1
}

// random is what has made hashes from 1 to n; one that is not told is n + 1.
// In a tame one parents stand below, and have lesser stamps; else objects name
// one another as it comes, and some are none.
func random(r *rand.Rand, n int, tame bool) shelf {
	s := shelf{}
	for i := 1; i <= n; i++ {
		if b := randomBytes(r, i, n, tame); b != nil {
			s[made(i)] = b
		}
	}
	return s
}

func randomBytes(r *rand.Rand, i, n int, tame bool) []byte {
	some := func() string { return made(1 + r.Intn(n+1)) }
	switch k := r.Intn(20); {
	case k == 0 && !tame:
		return nil
	case k == 1 && !tame:
		return []byte{byte(r.Intn(6)), 1}
	case k < 4:
		return []byte{obj.Blob, byte(i)}
	case k < 8:
		var ids []string
		for range r.Intn(4) {
			ids = append(ids, some())
		}
		return encoded(treeOf(ids...))
	}
	stamp := i
	parent := func() string { return made(1 + r.Intn(max(1, i-1))) }
	if !tame {
		stamp, parent = r.Intn(4), some
	}
	var parents []string
	for range min(r.Intn(3), i-1) {
		parents = append(parents, parent())
	}
	return encoded(commitOf(stamp, some(), slices.Compact(sorted(parents...))...))
}

func pickIDs(r *rand.Rand, n int) []string {
	var ids []string
	for range r.Intn(4) {
		ids = append(ids, made(1+r.Intn(n+1)))
	}
	return ids
}

func TestAgainstAModel(t *testing.T) { // P12.1 to P12.3
	r := rand.New(rand.NewSource(12))
	fine := map[string]int{}
	for round := range rounds(20000) {
		n := 1 + r.Intn(12)
		s := random(r, n, round%2 == 0)
		ids, haves := pickIDs(r, n), pickIDs(r, n)
		for _, most := range []int{r.Intn(2), 1 + r.Intn(n+1), n + 1, 1999 + r.Intn(3)} {
			told, lacking, errno := s.closure(ids, most)
			wantClosure(t, s.source, ids, most, told, lacking, errno)
			want, diffErrno := s.diff(ids, haves, most)
			wantDiff(t, s.source, ids, haves, most, want, diffErrno)
			if diffErrno == api.OK && len(want) > 0 {
				fine["diffs"]++
			}
			if wantGraph(t, s, ids, most) && len(ids) > 0 {
				fine["graphs"]++
			}
		}
		if t.Failed() {
			t.Fatalf("round %d: %q", round, s)
		}
	}
	if fine["diffs"] < rounds(2000) || fine["graphs"] < rounds(2000) {
		t.Errorf("few that are OK: %v", fine)
	}
}

// wantGraph tells whether there is a graph.
func wantGraph(t *testing.T, s shelf, ids []string, most int) bool {
	t.Helper()
	nodes, errnos := s.graph(ids, most)
	g, errno := reach.Graph(s.source, ids, most)
	if len(errnos) == 0 {
		wantNodes(t, g, errno, nodes...)
		return true
	}
	if g != nil || !slices.Contains(errnos, errno) {
		t.Errorf("Graph(%q, %d) = %v, %d, want one of %d", ids, most, g, errno, errnos)
	}
	return false
}

// No call asks twice of one hash, whatever it answers.
func TestNothingIsAskedTwice(t *testing.T) { // P12.1 to P12.3
	r := rand.New(rand.NewSource(13))
	for round := range rounds(5000) {
		n := 1 + r.Intn(12)
		s := random(r, n, round%2 == 0)
		wants, haves, most := pickIDs(r, n), pickIDs(r, n), 1+r.Intn(n+2)
		for i, call := range []func(src reach.Source){
			func(src reach.Source) { reach.Closure(src, wants, most) },
			func(src reach.Source) { reach.Whole(src, wants, most) },
			func(src reach.Source) { reach.Graph(src, wants, most) },
			func(src reach.Source) { reach.Diff(src, wants, haves, most) },
		} {
			src, times := counted(s)
			call(src)
			for id, n := range times {
				if n != 1 {
					t.Fatalf("%q: call %d of %q, %q, %d asks %d times of %s", s, i, wants, haves, most, n, id)
				}
			}
		}
	}
}

// What a call answers hangs on nothing but its arguments.
func TestCallsHangOnNothingElse(t *testing.T) { // P0.5
	r := rand.New(rand.NewSource(14))
	for round := range rounds(3000) {
		n := 1 + r.Intn(12)
		s, ids, haves, most := random(r, n, round%2 == 0), pickIDs(r, n), pickIDs(r, n), 1+r.Intn(n+2)
		var was []byte
		for i := range 3 {
			now := toldOf(s, ids, haves, most)
			if i > 0 && !bytes.Equal(now, was) {
				t.Fatalf("%q: of %q, %q, %d: %s, was %s", s, ids, haves, most, now, was)
			}
			was = now
		}
	}
}
