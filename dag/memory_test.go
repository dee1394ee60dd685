package dag_test

import (
	"fmt"
	"math/rand"
	"slices"
	"testing"

	"marline/api"
	"marline/dag"
)

// spoil writes into a list and into its spare room.
func spoil(l []string) {
	whole := l[:cap(l)]
	for i := range whole {
		whole[i] = "spoiled"
	}
}

// withRoom is l with room behind it, filled with what is to stay there.
func withRoom(l []string) []string {
	room := append(slices.Clone(l), "A", "no such id", "")
	return room[:len(l)]
}

func stays(l, want []string) bool {
	return slices.Equal(l[:len(l)+3], append(slices.Clone(want), "A", "no such id", ""))
}

// calls are those that answer lists, made ones that take lists alone.
func calls(g *dag.Graph) map[string]func(ids []string) ([]string, api.Errno) {
	return map[string]func(ids []string) ([]string, api.Errno){
		"Ancestors": g.Ancestors,
		"Tops":      g.Tops,
		"Order":     g.Order,
		"Bases":     func(ids []string) ([]string, api.Errno) { return g.Bases(ids, "E") },
		"Parents":   func(ids []string) ([]string, api.Errno) { return g.Parents("D"), api.OK },
	}
}

func TestParentsHandedInAreNotKept(t *testing.T) { // P11.5
	g := dag.New()
	var given [][]string
	for _, c := range crossed() {
		parents := withRoom(c.parents)
		if errno := g.Add(c.id, parents, c.stamp); errno != api.OK || !stays(parents, c.parents) {
			t.Errorf("Add(%v) = %d, behind it %q", c, errno, parents[:cap(parents)])
		}
		given = append(given, parents)
	}
	ids := list("A B C D E F")
	was := toldOf(g, ids)
	if want := toldOf(made(t, crossed()), ids); was != want {
		t.Errorf("what is behind the parents is read: %s, want %s", was, want)
	}
	for _, parents := range given {
		spoil(parents)
	}
	if now := toldOf(g, ids); now != was {
		t.Errorf("a write into the parents shows: %s, was %s", now, was)
	}
	failing := withRoom(list("E X C"))
	if errno := g.Add("G", failing, 9); errno != api.ErrNone || !stays(failing, list("E X C")) {
		t.Errorf("an Add that fails: %d, behind it %q", errno, failing[:cap(failing)])
	}
}

func TestIDsHandedInStay(t *testing.T) { // P11.5
	g := made(t, crossed())
	for name, call := range calls(g) {
		for _, s := range []string{"", "D", "E D", "F D C D A", "C B", "E D C B A F"} {
			want, _ := call(list(s))
			given := withRoom(list(s))
			got, errno := call(given)
			if errno != api.OK || !slices.Equal(got, want) || !stays(given, list(s)) {
				t.Errorf("%s of %s = %q, %d, want %q; handed in is now %q", name, s, got, errno, want, given[:cap(given)])
			}
			spoil(given)
			if !slices.Equal(got, want) {
				t.Errorf("%s of %s: a write into what was handed in shows in %q", name, s, got)
			}
		}
		if name == "Parents" {
			continue
		}
		given := withRoom(list("D X C"))
		if _, errno := call(given); errno != api.ErrNone || !stays(given, list("D X C")) {
			t.Errorf("%s that fails: %d, handed in is now %q", name, errno, given[:cap(given)])
		}
	}
}

func TestAnswersAreNewMemory(t *testing.T) { // P11.5, P0.4
	g := made(t, crossed())
	all := list("A B C D E F")
	was := toldOf(g, all)
	for name, call := range calls(g) {
		for _, s := range []string{"", "A", "D", "E D", "C B", "A B C D E F", "F E D C B A"} {
			ids := list(s)
			first, _ := call(ids)
			second, _ := call(ids)
			want := slices.Clone(second)
			spoil(first)
			if again, _ := call(ids); !slices.Equal(ids, list(s)) || !slices.Equal(second, want) || !slices.Equal(again, want) {
				t.Errorf("%s of %s: a write into an answer shows in %q, in %q or in %q", name, s, ids, second, again)
			}
			if now := toldOf(g, all); now != was {
				t.Fatalf("%s of %s: a write into the answer shows in the graph: %s, was %s", name, s, now, was)
			}
		}
	}
}

// What is appended to the Parents of one shows in no other one's.
func TestAnswersHaveNoCommonRoom(t *testing.T) { // P11.5, P0.4
	r := rand.New(rand.NewSource(5))
	commits := randomCommits(r, 60)
	g := made(t, commits)
	var lists [][]string
	for _, c := range commits {
		lists = append(lists, g.Parents(c.id))
	}
	for i := range lists {
		lists[i] = append(lists[i], "more", fmt.Sprint(i))
	}
	for i, c := range commits {
		if want := append(slices.Clone(c.parents), "more", fmt.Sprint(i)); !slices.Equal(lists[i], want) || !slices.Equal(g.Parents(c.id), c.parents) {
			t.Errorf("%s: %q, want %q", c.id, lists[i], want)
		}
	}
}

// A graph that grows changes nothing that it has answered.
func TestAnswersStay(t *testing.T) { // P11.5
	g := made(t, crossed())
	ids := list("E D")
	kept := map[string][]string{}
	for name, call := range calls(g) {
		kept[name], _ = call(ids)
	}
	for i, id := range list("G H I J") {
		if errno := g.Add(id, list("E D F"), 10+i); errno != api.OK {
			t.Fatalf("Add(%s) = %d", id, errno)
		}
	}
	for name, want := range map[string]string{"Ancestors": "A B C D E", "Tops": "D E", "Order": "E D C B A", "Bases": "E", "Parents": "B C"} {
		checkList(t, name, kept[name], api.OK, want, api.OK)
	}
}
