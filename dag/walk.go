package dag

import (
	"cmp"
	"slices"

	"marline/api"
	"marline/wire"
)

// Ancestors is all that are reached from ids by parents, they too, rising.
func (g *Graph) Ancestors(ids []string) ([]string, api.Errno) {
	from, errno := g.placesOf(ids)
	if errno != api.OK {
		return nil, errno
	}
	return wire.Sort(g.idsOf(g.ancestors(from))), api.OK
}

// Is tells whether both are there, and a is among the Ancestors of b.
func (g *Graph) Is(a, b string) bool {
	places, errno := g.placesOf([]string{a, b})
	return errno == api.OK && g.reached(places[1:])[places[0]]
}

// Bases is, of those that are Ancestors of a and of b, the ones that no other
// one of them comes from, rising.
func (g *Graph) Bases(a []string, b string) ([]string, api.Errno) {
	fromA, errno := g.placesOf(a)
	if errno != api.OK {
		return nil, errno
	}
	fromB, errno := g.placesOf([]string{b})
	if errno != api.OK {
		return nil, errno
	}
	ofA := g.reached(fromA)
	common := slices.DeleteFunc(g.ancestors(fromB), func(place int) bool { return !ofA[place] })
	return wire.Sort(g.idsOf(g.tops(common))), api.OK
}

// Tops is those of ids that no other one of them comes from, rising.
func (g *Graph) Tops(ids []string) ([]string, api.Errno) {
	places, errno := g.placesOf(wire.Unique(ids))
	if errno != api.OK {
		return nil, errno
	}
	return g.idsOf(g.tops(places)), api.OK
}

// Order is the Ancestors of ids by falling stamps, of one stamp rising.
func (g *Graph) Order(ids []string) ([]string, api.Errno) {
	from, errno := g.placesOf(ids)
	if errno != api.OK {
		return nil, errno
	}
	places := g.ancestors(from)
	slices.SortFunc(places, func(a, b int) int {
		one, other := g.nodes[a], g.nodes[b]
		return cmp.Or(cmp.Compare(other.stamp, one.stamp), wire.Compare(one.id, other.id))
	})
	return g.idsOf(places), api.OK
}

// reached marks those in from, and all that they come from.
func (g *Graph) reached(from []int) []bool {
	marked := make([]bool, len(g.nodes))
	work := slices.Clone(from)
	for len(work) > 0 {
		last := len(work) - 1
		place := work[last]
		work = work[:last]
		if !marked[place] {
			marked[place] = true
			work = append(work, g.nodes[place].parents...)
		}
	}
	return marked
}

// ancestors is the places that reached marks.
func (g *Graph) ancestors(from []int) []int {
	var places []int
	for place, marked := range g.reached(from) {
		if marked {
			places = append(places, place)
		}
	}
	return places
}

// tops is those at places, each there once, that no other one there comes
// from, in their order. No one comes from itself, so that whatever their
// parents reach has another one above it.
func (g *Graph) tops(places []int) []int {
	var parents []int
	for _, place := range places {
		parents = append(parents, g.nodes[place].parents...)
	}
	below := g.reached(parents)
	var tops []int
	for _, place := range places {
		if !below[place] {
			tops = append(tops, place)
		}
	}
	return tops
}
