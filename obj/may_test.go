package obj_test

import (
	"fmt"
	"math"
	"math/rand"
	"slices"
	"strings"
	"testing"

	"marline/api"
	"marline/obj"
	"marline/sha"
)

// wantMay asks all three calls that tell whether an object may be.
func wantMay(t *testing.T, what string, o obj.Obj, want bool) {
	t.Helper()
	b, e := obj.Encode(o)
	id, f := obj.ID(o)
	if obj.May(o) != want {
		t.Errorf("May of %s: %v", what, !want)
	}
	if want && (e != api.OK || f != api.OK || id != sha.ID(b) || string(b) != string(bytesOf(o))) {
		t.Errorf("%s: Encode %d %.100x, ID %d %s", what, e, b, f, id)
	}
	if !want && (e != api.ErrRange || f != api.ErrRange || len(b) > 0 || id != "") {
		t.Errorf("%s: Encode %d %.100x, ID %d %s", what, e, b, f, id)
	}
	if isObject(o) != want {
		t.Errorf("the model of %s: %v", what, !want)
	}
}

// manyItems is a tree's items, with names of three digits.
func manyItems(n int) []obj.Item {
	var l []obj.Item
	for i := range n {
		l = append(l, obj.Item{Mode: api.Plain, Name: fmt.Sprintf("%03d", i), ID: digit("c")})
	}
	return l
}

func TestMayOfKinds(t *testing.T) { // P6.1
	wantMay(t, "a blob", aBlob(), true)
	wantMay(t, "a tree", aTree(), true)
	wantMay(t, "a commit", aCommit(), true)
	wantMay(t, "the blob of nothing", obj.Obj{Kind: obj.Blob}, true)
	wantMay(t, "the tree of nothing", obj.Obj{Kind: obj.Tree}, true)
	wantMay(t, "a commit of nothing", obj.Obj{Kind: obj.Commit}, false)
	for _, kind := range []int{0, 4, 5, -1, 1 + 256, 2 + 256, 3 + 256, 1 - 256, 1 << 32, 1<<32 + 1, math.MinInt, math.MinInt + 1, math.MaxInt} {
		for _, o := range []obj.Obj{{}, aBlob(), aTree(), aCommit()} {
			o.Kind = kind
			wantMay(t, fmt.Sprintf("kind %d", kind), o, false)
		}
	}
	for _, o := range each() {
		wantMay(t, fmt.Sprintf("kind %d with all fields", o.Kind), o, false)
	}
}

func TestMayHasNothingElse(t *testing.T) { // P6.1
	fields := map[string]func(o *obj.Obj){
		"Data":            func(o *obj.Obj) { o.Data = []byte{0} },
		"Items":           func(o *obj.Obj) { o.Items = []obj.Item{{Mode: api.Plain, Name: "a", ID: digit("1")}} },
		"a zero Item":     func(o *obj.Obj) { o.Items = []obj.Item{{}} },
		"Tree":            func(o *obj.Obj) { o.Tree = digit("1") },
		"Parents":         func(o *obj.Obj) { o.Parents = []string{digit("1")} },
		"an empty Parent": func(o *obj.Obj) { o.Parents = []string{""} },
		"Stamp":           func(o *obj.Obj) { o.Stamp = 1 },
		"Author":          func(o *obj.Obj) { o.Author = 1 },
		"Msg":             func(o *obj.Obj) { o.Msg = "m" },
	}
	own := map[int]string{obj.Blob: "Data", obj.Tree: "Items", obj.Commit: "Tree Parents Stamp Author Msg"}
	for name, fill := range fields {
		for _, o := range []obj.Obj{{Kind: obj.Blob}, {Kind: obj.Tree}, {Kind: obj.Commit, Tree: digit("2")}} {
			fill(&o)
			wantMay(t, fmt.Sprintf("kind %d with %s", o.Kind, name), o, strings.Contains(own[o.Kind], name))
		}
	}
}

func TestMayOfBlobs(t *testing.T) { // P6.1
	for n, want := range map[int]bool{0: true, 1: true, 4096: true, 4097: true, 19999: true, 20000: true, 20001: false, 1 << 20: false} {
		o := obj.Obj{Kind: obj.Blob, Data: []byte(strings.Repeat("\xff", n))}
		wantMay(t, fmt.Sprintf("a blob of %d bytes", n), o, want)
	}
}

func TestMayOfTrees(t *testing.T) { // P6.1
	for n, want := range map[int]bool{1: true, 127: true, 128: true, 255: true, 256: true, 257: false, 500: false} {
		wantMay(t, fmt.Sprintf("a tree of %d items", n), obj.Obj{Kind: obj.Tree, Items: manyItems(n)}, want)
	}
	for _, mode := range []int{math.MinInt, -1, 0, 1, 2, 3, 4, 5, 1 + 256, math.MaxInt} {
		o := aTree()
		o.Items[2].Mode = mode
		wantMay(t, fmt.Sprintf("mode %d", mode), o, mode >= 1 && mode <= 4)
	}
	for name, want := range map[string]bool{
		"": false, ".": false, "..": false, "...": true, "a/b": false, "a b": false, "!": true, "~": true, "\x7f": false, "\x80": false, "é": false, " ": false, "a\n": false,
		strings.Repeat("n", 64): true, strings.Repeat("n", 65): false,
	} {
		o := obj.Obj{Kind: obj.Tree, Items: []obj.Item{{Mode: api.Plain, Name: name, ID: digit("1")}}}
		wantMay(t, fmt.Sprintf("name %q", name), o, want)
	}
	for id, want := range badAndGoodHashes() {
		for i := range 4 {
			o := aTree()
			o.Items[i].ID = id
			wantMay(t, fmt.Sprintf("hash %q", id), o, want)
		}
	}
}

func badAndGoodHashes() map[string]bool {
	return map[string]bool{
		"": false, "x": false, "ab": false, digit("0"): true, digit("9"): true, digit("a"): true, digit("f"): true,
		digit("g"): false, digit("A"): false, digit("a")[1:]: false, digit("a") + "a": false, digit("a") + "aa": false, digit("a")[2:]: false,
		digit("a")[1:] + "\n": false, "/" + digit("a")[1:]: false, ":" + digit("a")[1:]: false, "`" + digit("a")[1:]: false,
	}
}

func TestItemsRise(t *testing.T) { // P6.1
	for names, want := range map[string]bool{
		"a b": true, "b a": false, "a a": false, "a ab": true, "ab a": false, "B a": true, "a B": false, "a a-b ab": true, "a ab a-b": false,
		"a b c d": true, "a b d c": false, "a c b d": false, "b a c d": false, "a b c c": false, "a a b c": false, "a b a": false, "10 9": true, "9 10": false,
	} {
		var items []obj.Item
		for i, name := range strings.Fields(names) {
			items = append(items, obj.Item{Mode: 4 - i, Name: name, ID: digit(string(rune('9' - i)))})
		}
		wantMay(t, "items "+names, obj.Obj{Kind: obj.Tree, Items: items}, want)
	}
}

func TestMayOfCommits(t *testing.T) { // P6.1
	for id, want := range badAndGoodHashes() {
		o := aCommit()
		o.Tree = id
		wantMay(t, fmt.Sprintf("tree %q", id), o, want)
		o = aCommit()
		o.Parents = []string{id}
		wantMay(t, fmt.Sprintf("parent %q", id), o, want)
		o.Parents = []string{id, digit("f")[1:] + "g"}
		wantMay(t, fmt.Sprintf("parents %q", o.Parents), o, false)
		o.Parents = []string{"", id}
		wantMay(t, fmt.Sprintf("parents %q", o.Parents), o, false)
	}
	for digits, want := range map[string]bool{"": true, "1": true, "9": true, "1 2": true, "1 f": true, "2 1": false, "1 1": false, "0 0": false, "9 a": true, "1 2 3": false, "1 1 2": false, "1 2 3 4": false} {
		o := aCommit()
		o.Parents = nil
		for _, c := range strings.Fields(digits) {
			o.Parents = append(o.Parents, digit(c))
		}
		wantMay(t, "parents "+digits, o, want)
	}
	// A commit may have its own tree's hash as a parent.
	o := aCommit()
	o.Tree = o.Parents[0]
	wantMay(t, "a tree that is a parent", o, true)
}

func TestMayOfNumbers(t *testing.T) { // P6.1
	for _, n := range []int{math.MinInt, -1 << 40, -256, -1, 0, 1, 127, 128, 254, 255, 256, 257, 1<<40 - 1, 1 << 40, 1<<40 + 1, 1<<56 + 1, math.MaxInt} {
		o := aCommit()
		o.Stamp = n
		wantMay(t, fmt.Sprintf("stamp %d", n), o, n >= 0 && n <= 1<<40)
		o = aCommit()
		o.Author = n
		wantMay(t, fmt.Sprintf("author %d", n), o, n >= 0 && n <= 255)
	}
}

func TestMayOfMessages(t *testing.T) { // P6.1
	for c := range 256 {
		for _, at := range []int{0, 1, 2} {
			msg := []byte("abc")
			msg[at] = byte(c)
			o := aCommit()
			o.Msg = string(msg)
			wantMay(t, fmt.Sprintf("message %q", msg), o, c >= 32 && c <= 126)
		}
	}
	for _, n := range []int{0, 1, 127, 128, 199, 200, 201, 256, 400} {
		o := aCommit()
		o.Msg = strings.Repeat("m", n)
		wantMay(t, fmt.Sprintf("a message of %d bytes", n), o, n <= 200)
	}
}

// What changes one field of objects that may be is told as the model tells it.
func TestMayOfChangedObjects(t *testing.T) { // P6.1
	r := rand.New(rand.NewSource(61))
	for range 3000 {
		o := randomObject(r)
		wantMay(t, fmt.Sprintf("%v", o), o, true)
		for field, c := range oneFieldChanged(o) {
			wantMay(t, fmt.Sprintf("%v, %s", c, field), c, isObject(c))
		}
		if len(o.Items) > 1 {
			i := r.Intn(len(o.Items) - 1)
			slices.Reverse(o.Items[i : i+2])
			wantMay(t, fmt.Sprintf("%v", o), o, false)
		}
	}
}
