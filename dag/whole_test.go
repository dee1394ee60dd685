package dag_test

import (
	"math/rand"
	"slices"
	"testing"

	"marline/api"
	"marline/dag"
)

// randomCommits may be added in their order.
func randomCommits(r *rand.Rand, n int) []commit {
	m := newModel()
	for len(m.ids) < n {
		m.add(m.randomCommit(r, 1000, 3, 2))
	}
	var l []commit
	for _, id := range m.ids {
		l = append(l, m.of[id])
	}
	slices.SortStableFunc(l, func(a, b commit) int { return a.stamp - b.stamp })
	return l
}

func shuffled[T any](r *rand.Rand, l []T) []T {
	l = slices.Clone(l)
	r.Shuffle(len(l), func(i, j int) { l[i], l[j] = l[j], l[i] })
	return l
}

// reordered is commits in another order in which they may be added, each with
// its parents in another order and doubled.
func reordered(r *rand.Rand, commits []commit) []commit {
	left := shuffled(r, commits)
	there := map[string]bool{}
	var l []commit
	for len(left) > 0 {
		next := slices.IndexFunc(left, func(c commit) bool {
			return !slices.ContainsFunc(c.parents, func(p string) bool { return !there[p] })
		})
		c := left[next]
		there[c.id] = true
		l = append(l, commit{c.id, shuffled(r, slices.Concat(c.parents, c.parents)), c.stamp})
		left = slices.Delete(left, next, next+1)
	}
	return l
}

func someOf(r *rand.Rand, commits []commit) []string {
	var ids []string
	for range 1 + r.Intn(4) {
		ids = append(ids, pick(r, commits).id)
	}
	return ids
}

func TestBasesHangOnNoOrder(t *testing.T) { // P11.6
	r := rand.New(rand.NewSource(61))
	for range graphs(300) {
		commits := randomCommits(r, 1+r.Intn(30))
		g, h := made(t, commits), made(t, reordered(r, commits))
		for range 30 {
			a, b := someOf(r, commits), pick(r, commits).id
			want, _ := g.Bases(a, b)
			for _, of := range []*dag.Graph{g, h} {
				if got, errno := of.Bases(shuffled(r, slices.Concat(a, a)), b); errno != api.OK || !slices.Equal(got, want) {
					t.Fatalf("%v: Bases(%q, %q) = %q, %d, want %q", commits, a, b, got, errno, want)
				}
			}
			there, _ := g.Bases(a[:1], b)
			back, _ := h.Bases([]string{b}, a[0])
			if !slices.Equal(there, back) {
				t.Fatalf("%v: Bases of %q and %q = %q, the other way round %q", commits, a[0], b, there, back)
			}
			wantLike(t, g, h, shuffled(r, a), a)
		}
	}
}

// wantLike holds what two like graphs answer of ids in two orders.
func wantLike(t *testing.T, g, h *dag.Graph, ids, others []string) {
	t.Helper()
	calls := []func([]string) ([]string, api.Errno){g.Ancestors, g.Tops, g.Order}
	for i, call := range []func([]string) ([]string, api.Errno){h.Ancestors, h.Tops, h.Order} {
		one, _ := calls[i](ids)
		other, errno := call(others)
		if errno != api.OK || !slices.Equal(one, other) {
			t.Fatalf("call %d of %q = %q, of %q = %q, %d", i, ids, one, others, other, errno)
		}
	}
}

// Each common ancestor is one of a base, and no base is one of another.
func TestBasesHaveAllThatIsCommon(t *testing.T) { // P11.6
	r := rand.New(rand.NewSource(62))
	for range graphs(300) {
		commits := randomCommits(r, 1+r.Intn(30))
		g := made(t, commits)
		for range 20 {
			a, b := someOf(r, commits), pick(r, commits).id
			bases, _ := g.Bases(a, b)
			for _, c := range commits {
				common := g.Is(c.id, b) && slices.ContainsFunc(a, func(id string) bool { return g.Is(c.id, id) })
				ofBase := slices.ContainsFunc(bases, func(id string) bool { return g.Is(c.id, id) })
				if common != ofBase {
					t.Fatalf("%v: %s is common: %v; of Bases(%q, %q) = %q: %v", commits, c.id, common, a, b, bases, ofBase)
				}
			}
			if tops, _ := g.Tops(bases); !slices.Equal(tops, bases) {
				t.Fatalf("%v: of Bases(%q, %q) = %q tops are %q", commits, a, b, bases, tops)
			}
		}
	}
}

// Each one stands ahead of its parents, which stand in the Order too.
func TestOrderIsAheadOfParents(t *testing.T) { // P11.6
	r := rand.New(rand.NewSource(63))
	for range graphs(300) {
		commits := randomCommits(r, 1+r.Intn(40))
		g := made(t, commits)
		for range 10 {
			ids := someOf(r, commits)
			order, errno := g.Order(ids)
			if errno != api.OK {
				t.Fatalf("Order(%q) = %d", ids, errno)
			}
			for i, id := range order {
				for _, p := range g.Parents(id) {
					if slices.Index(order, p) <= i {
						t.Fatalf("%v: Order(%q) = %q: %s from %s", commits, ids, order, id, p)
					}
				}
			}
		}
	}
}
