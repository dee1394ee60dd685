package dag_test

import (
	"fmt"
	"math/rand"
	"slices"
	"testing"

	"marline/api"
	"marline/dag"
)

// commit is what is handed to Add.
type commit struct {
	id      string
	parents []string
	stamp   int
}

// model says the chapter's words in another way: it keeps of each commit all
// that it comes from, itself too, and looks at each pair.
type model struct {
	ids    []string
	of     map[string]commit
	behind map[string]map[string]bool
}

func newModel() *model {
	return &model{of: map[string]commit{}, behind: map[string]map[string]bool{}}
}

func (m *model) has(id string) bool { return slices.Contains(m.ids, id) }

func (m *model) add(c commit) api.Errno {
	parents := slices.Compact(slices.Sorted(slices.Values(c.parents)))
	highest := -1
	for _, p := range parents {
		if m.has(p) {
			highest = max(highest, m.of[p].stamp)
		}
	}
	switch {
	case c.id == "":
		return api.ErrName
	case m.has(c.id):
		return api.ErrExists
	case !m.haveAll(parents):
		return api.ErrNone
	case c.stamp <= highest:
		return api.ErrRange
	case len(m.ids) >= 2000:
		return api.ErrLimit
	}
	m.ids = append(m.ids, c.id)
	slices.Sort(m.ids)
	m.of[c.id] = commit{c.id, parents, c.stamp}
	m.behind[c.id] = map[string]bool{c.id: true}
	for _, p := range parents {
		for id := range m.behind[p] {
			m.behind[c.id][id] = true
		}
	}
	return api.OK
}

func (m *model) haveAll(ids []string) bool {
	return !slices.ContainsFunc(ids, func(id string) bool { return !m.has(id) })
}

func (m *model) is(a, b string) bool { return m.behind[b][a] }

// those is the ids that keep says, rising; none, ErrNone, if one of need is not there.
func (m *model) those(need []string, keep func(id string) bool) ([]string, api.Errno) {
	if !m.haveAll(need) {
		return nil, api.ErrNone
	}
	return slices.DeleteFunc(slices.Clone(m.ids), func(id string) bool { return !keep(id) }), api.OK
}

func (m *model) isOfAny(id string, ids []string) bool {
	return slices.ContainsFunc(ids, func(b string) bool { return m.is(id, b) })
}

func (m *model) ancestors(ids []string) ([]string, api.Errno) {
	return m.those(ids, func(id string) bool { return m.isOfAny(id, ids) })
}

// hasOther tells whether id is an ancestor of another one of l.
func (m *model) hasOther(id string, l []string) bool {
	return slices.ContainsFunc(l, func(b string) bool { return id != b && m.is(id, b) })
}

func (m *model) tops(ids []string) ([]string, api.Errno) {
	return m.those(ids, func(id string) bool { return slices.Contains(ids, id) && !m.hasOther(id, ids) })
}

func (m *model) bases(a []string, b string) ([]string, api.Errno) {
	common, errno := m.those(append(slices.Clone(a), b), func(id string) bool { return m.isOfAny(id, a) && m.is(id, b) })
	return slices.DeleteFunc(slices.Clone(common), func(id string) bool { return m.hasOther(id, common) }), errno
}

func (m *model) order(ids []string) ([]string, api.Errno) {
	left, errno := m.ancestors(ids)
	var l []string
	for len(left) > 0 {
		next := 0
		for i, id := range left {
			if m.of[id].stamp > m.of[left[next]].stamp {
				next = i
			}
		}
		l = append(l, left[next])
		left = slices.Delete(left, next, next+1)
	}
	return l, errno
}

// pair is a graph and its model.
type pair struct {
	t *testing.T
	g *dag.Graph
	m *model
}

func newPair(t *testing.T, commits ...commit) *pair {
	p := &pair{t, dag.New(), newModel()}
	for _, c := range commits {
		p.add(c)
	}
	return p
}

func (p *pair) add(c commit) {
	p.t.Helper()
	if got, want := p.g.Add(c.id, c.parents, c.stamp), p.m.add(c); got != want {
		p.t.Fatalf("%v: Add(%v) = %d, want %d", p.m.of, c, got, want)
	}
}

func (p *pair) same(name string, got []string, errno api.Errno, want []string, wantErrno api.Errno) {
	p.t.Helper()
	if !slices.Equal(got, want) || errno != wantErrno {
		p.t.Fatalf("%v: %s = %q, %d, want %q, %d", p.m.of, name, got, errno, want, wantErrno)
	}
}

// compareEach holds all that is told of each id: of those that are there and of others.
func (p *pair) compareEach() {
	p.t.Helper()
	if got := p.g.Len(); got != len(p.m.ids) {
		p.t.Fatalf("Len() = %d, want %d", got, len(p.m.ids))
	}
	ids := append(slices.Clone(p.m.ids), "", "no such id")
	for _, id := range ids {
		stamp := -1
		if p.m.has(id) {
			stamp = p.m.of[id].stamp
		}
		if p.g.Has(id) != p.m.has(id) || p.g.Stamp(id) != stamp {
			p.t.Fatalf("%v: Has(%q) = %v, Stamp = %d", p.m.of, id, p.g.Has(id), p.g.Stamp(id))
		}
		p.same("Parents "+id, p.g.Parents(id), 0, p.m.of[id].parents, 0)
		for _, b := range ids {
			if got := p.g.Is(id, b); got != p.m.is(id, b) {
				p.t.Fatalf("%v: Is(%q, %q) = %v", p.m.of, id, b, got)
			}
		}
	}
}

func (p *pair) compareWalks(ids []string) {
	p.t.Helper()
	name := fmt.Sprintf("%q", ids)
	got, errno := p.g.Ancestors(ids)
	want, wantErrno := p.m.ancestors(ids)
	p.same("Ancestors "+name, got, errno, want, wantErrno)
	got, errno = p.g.Tops(ids)
	want, wantErrno = p.m.tops(ids)
	p.same("Tops "+name, got, errno, want, wantErrno)
	got, errno = p.g.Order(ids)
	want, wantErrno = p.m.order(ids)
	p.same("Order "+name, got, errno, want, wantErrno)
}

func (p *pair) compareBases(a []string, b string) {
	p.t.Helper()
	got, errno := p.g.Bases(a, b)
	want, wantErrno := p.m.bases(a, b)
	p.same(fmt.Sprintf("Bases %q %q", a, b), got, errno, want, wantErrno)
}

// chosen is those of l whose bits are set in n.
func chosen(l []string, n int) []string {
	var some []string
	for i, s := range l {
		if n>>i&1 == 1 {
			some = append(some, s)
		}
	}
	return some
}

// someIDs rise in no order in which commits could be added.
func someIDs() []string { return []string{"b", "\xff", "B", "a\x00", "a", "aa", "10", "2"} }

// Each graph of up to four commits: each choice of parents, stamps that
// are as low as may be, and each list of ids.
func TestAllSmallGraphs(t *testing.T) { // P11.1 to P11.3
	for n := range 5 {
		ids := someIDs()[:n]
		for bits := range 1 << (n * (n - 1) / 2) {
			p, rest := newPair(t), bits
			for i, id := range ids {
				parents := chosen(ids[:i], rest)
				rest >>= i
				stamp := 0
				for _, parent := range parents {
					stamp = max(stamp, p.m.of[parent].stamp+1)
				}
				p.add(commit{id, parents, stamp})
			}
			p.compareEach()
			asked := append(slices.Clone(ids), "no such id")
			for some := range 1 << len(asked) {
				p.compareWalks(chosen(asked, some))
				for _, b := range asked {
					p.compareBases(chosen(asked, some), b)
				}
			}
		}
	}
}

func pick[T any](r *rand.Rand, l []T) T { return l[r.Intn(len(l))] }

// randomIDs is up to most of those there, in any order, doubles among them;
// rarely one that is not there.
func (m *model) randomIDs(r *rand.Rand, most int) []string {
	var l []string
	for range r.Intn(most + 1) {
		if len(m.ids) > 0 {
			l = append(l, pick(r, m.ids))
		}
	}
	if r.Intn(30) == 0 {
		l = slices.Insert(l, r.Intn(len(l)+1), pick(r, []string{"", "no such id"}))
	}
	return l
}

func (m *model) randomCommit(r *rand.Rand, names, parents, rise int) commit {
	c := commit{id: fmt.Sprint("c", r.Intn(names)), parents: m.randomIDs(r, parents)}
	if r.Intn(40) == 0 {
		c.id = ""
	}
	for _, id := range c.parents {
		c.stamp = max(c.stamp, m.of[id].stamp)
	}
	c.stamp += r.Intn(rise+2) - r.Intn(2)
	return c
}

// graphs is how many random ones a test takes.
func graphs(most int) int {
	if testing.Short() {
		return most / 10
	}
	return most
}

func TestRandomGraphs(t *testing.T) { // P11.1 to P11.4
	r := rand.New(rand.NewSource(11))
	for range graphs(600) {
		p := newPair(t)
		names, parents, rise := 1+r.Intn(60), r.Intn(6), 1+r.Intn(4)
		for range r.Intn(80) {
			p.add(p.m.randomCommit(r, names, parents, rise))
		}
		p.compareEach()
		for range 40 {
			p.compareWalks(p.m.randomIDs(r, 6))
			p.compareBases(p.m.randomIDs(r, 4), pick(r, append(p.m.randomIDs(r, 3), "c0")))
		}
	}
}

// What was asked before shows in no answer: a graph that is asked as it grows
// answers as one that was made at once.
func TestGraphsThatGrow(t *testing.T) { // P11.1 to P11.4
	r := rand.New(rand.NewSource(12))
	for range graphs(200) {
		p := newPair(t)
		for range 30 {
			p.add(p.m.randomCommit(r, 40, 3, 2))
			p.compareEach()
			p.compareWalks(p.m.randomIDs(r, 4))
			p.compareBases(p.m.randomIDs(r, 3), pick(r, append(p.m.ids, "no such id")))
		}
	}
}
