package pack_test

import (
	"bytes"
	"fmt"
	"math/rand"
	"slices"
	"testing"

	"marline/api"
	"marline/delta"
	"marline/obj"
	"marline/pack"
)

func checkWrite(t *testing.T, objs [][]byte) []byte {
	t.Helper()
	got, errno := pack.Write(objs)
	want, wantErrno := writtenOf(objs)
	if errno != wantErrno || !bytes.Equal(got, want) {
		t.Fatalf("Write of %d objects = %d, % .200x, want %d, % .200x", len(objs), errno, got, wantErrno, want)
	}
	return got
}

func TestWriteOfNoObjects(t *testing.T) { // P10.1
	for _, objs := range [][][]byte{nil, {}} {
		b, errno := pack.Write(objs)
		if want := closed([]byte{0x4D, 0x50, 0x31, 0}); errno != api.OK || len(b) != 36 || !bytes.Equal(b, want) {
			t.Errorf("% x, %d, want % x", b, errno, want)
		}
	}
}

func TestWriteOfKnownObjects(t *testing.T) { // P10.1
	one, two := blob("0123456789 and so on"), blob("0123456789 and so forth")
	d := delta.Make(one, two)
	a, ab := tree("a"), tree("a", "b")
	late, later := commit("late"), commit("later")
	other := blob("quite another text")
	same := func(o []byte) []byte { return delta.Make(o, o) }
	for _, c := range []struct {
		name         string
		objs, pieces [][]byte
	}{
		{"the least blob", [][]byte{blob("")}, [][]byte{wholeOf(blob(""))}},
		{"one of each kind", [][]byte{one, a, late}, [][]byte{wholeOf(one), wholeOf(a), wholeOf(late)}},
		{"by the one just ahead", [][]byte{one, two}, [][]byte{wholeOf(one), aheadOf(1, d)}},
		{"by one two back, of the same kind", [][]byte{one, a, two}, [][]byte{wholeOf(one), wholeOf(a), aheadOf(2, d)}},
		{"trees", [][]byte{a, ab}, [][]byte{wholeOf(a), aheadOf(1, delta.Make(a, ab))}},
		{"commits", [][]byte{late, later}, [][]byte{wholeOf(late), aheadOf(1, delta.Make(late, later))}},
		{"kinds in turn", [][]byte{one, a, late, later, ab, two}, [][]byte{wholeOf(one), wholeOf(a), wholeOf(late), aheadOf(1, delta.Make(late, later)), aheadOf(3, delta.Make(a, ab)), aheadOf(5, d)}},
		{"the same again", [][]byte{one, one}, [][]byte{wholeOf(one), aheadOf(1, same(one))}},
		{"short ones again", [][]byte{blob("a"), blob("a")}, [][]byte{wholeOf(blob("a")), wholeOf(blob("a"))}},
		{"not by one unlike", [][]byte{other, two}, [][]byte{wholeOf(other), wholeOf(two)}},
		{"the nearest one alone, though one farther would do", [][]byte{one, other, two}, [][]byte{wholeOf(one), wholeOf(other), wholeOf(two)}},
		{"the nearest one, though one farther does better", [][]byte{two, one, two}, [][]byte{wholeOf(two), aheadOf(1, delta.Make(two, one)), aheadOf(1, delta.Make(one, two))}},
		{"not by one behind", [][]byte{blob("short"), one, two}, [][]byte{wholeOf(blob("short")), wholeOf(one), aheadOf(1, d)}},
	} {
		b, errno := pack.Write(c.objs)
		if want := packOf(c.pieces...); errno != api.OK || !bytes.Equal(b, want) {
			t.Errorf("%s: %d, % x, want % x", c.name, errno, b, want)
		}
		checkWrite(t, c.objs)
	}
}

// An object is told by another one only if that is shorter.
func TestWriteAsShortAsWhole(t *testing.T) { // P10.1
	from := blob("the first text, of some length")
	seen := map[int]bool{}
	for piece := 6; piece < 20; piece++ {
		for more := range 4 {
			o := slices.Concat([]byte{1}, from[2:2+piece], []byte("!?#$")[:more])
			d := delta.Make(from, o)
			want := wholeOf(o)
			if len(d) < len(o) {
				want = aheadOf(1, d)
			}
			seen[len(d)-len(o)] = true
			if b, errno := pack.Write([][]byte{from, o}); errno != api.OK || !bytes.Equal(b, packOf(wholeOf(from), want)) {
				t.Errorf("%q by %q: % x, %d", o, from, b, errno)
			}
		}
	}
	for _, over := range []int{-1, 0, 1} {
		if !seen[over] {
			t.Errorf("no delta is by %d longer than its object", over)
		}
	}
}

func numbered(count int) [][]byte {
	var objs [][]byte
	for i := range count {
		objs = append(objs, blob(fmt.Sprint("the same long text, and a number: ", 1000+i)))
	}
	return objs
}

// Behind one of depth 8 all go back to the last one of depth 7.
func TestWriteOfChains(t *testing.T) { // P10.1
	objs := numbered(300)
	b := checkWrite(t, objs)
	rows, errno := pack.Index(b, nothing)
	if errno != api.OK || len(rows) != len(objs) {
		t.Fatalf("%d rows, %d", len(rows), errno)
	}
	for i, r := range rows {
		if r.Depth != min(i, 8) {
			t.Errorf("the depth of object %d is %d", i, r.Depth)
		}
		by := min(i-1, 7)
		if i > 0 && !bytes.HasPrefix(b[r.Place:], aheadOf(i-by, delta.Make(objs[by], objs[i]))) {
			t.Errorf("object %d is not told by object %d", i, by)
		}
	}
}

// A whole one begins a chain anew; other kinds have chains of their own.
func TestWriteOfChainsBegunAnew(t *testing.T) { // P10.1
	objs := numbered(10)
	objs = append(objs, blob("quite another text"), blob("quite another text, and more"))
	for i := range 12 {
		objs = append(objs, commit(fmt.Sprint("the same message, and a number: ", 100+i)))
	}
	objs = append(objs, blob("quite another text, and still more"))
	rows, _ := pack.Index(checkWrite(t, objs), nothing)
	var depths []int
	for _, r := range rows {
		depths = append(depths, r.Depth)
	}
	want := []int{0, 1, 2, 3, 4, 5, 6, 7, 8, 8, 0, 1, 0, 1, 2, 3, 4, 5, 6, 7, 8, 8, 8, 8, 2}
	if !slices.Equal(depths, want) {
		t.Errorf("depths %v, want %v", depths, want)
	}
}

func TestWriteOfWrongObjects(t *testing.T) { // P10.1
	one := blob("one")
	none, long := []byte{9}, append([]byte{1}, make([]byte, 20000)...)
	with := func(count int, o ...[]byte) [][]byte {
		return append(slices.Repeat([][]byte{one}, count), o...)
	}
	for _, c := range []struct {
		name string
		objs [][]byte
		want api.Errno
	}{
		{"one too many", with(513), api.ErrLimit},
		{"very many", with(5000), api.ErrLimit},
		{"too many, all of them none", make([][]byte, 513), api.ErrLimit},
		{"too many, one too long", with(512, long), api.ErrLimit},
		{"too many, one none", with(512, none), api.ErrLimit},
		{"one too long", [][]byte{long}, api.ErrLong},
		{"the last one too long", with(511, long), api.ErrLong},
		{"one too long behind one that is none", [][]byte{none, long}, api.ErrLong},
		{"one too long ahead of one that is none", [][]byte{long, none}, api.ErrLong},
		{"one too long and none", [][]byte{make([]byte, 20001)}, api.ErrLong},
		{"one far too long", [][]byte{make([]byte, 100000)}, api.ErrLong},
		{"a tree too long", [][]byte{longTree()}, api.ErrLong},
		{"nil", [][]byte{nil}, api.ErrForm},
		{"no bytes", with(2, []byte{}), api.ErrForm},
		{"a kind 0", [][]byte{{0}}, api.ErrForm},
		{"a kind 4", with(1, []byte{4}, one), api.ErrForm},
		{"the first one none", append([][]byte{none}, with(511)...), api.ErrForm},
		{"the last one none", with(511, none), api.ErrForm},
		{"a tree cut off", with(1, tree("a")[:10]), api.ErrForm},
		{"a tree with a byte more", with(1, append(tree("a"), 0)), api.ErrForm},
		{"a commit cut off", with(1, commit("m")[:40]), api.ErrForm},
		{"as long as may be, and none", [][]byte{make([]byte, 20000)}, api.ErrForm},
	} {
		if b, errno := pack.Write(c.objs); errno != c.want || len(b) > 0 {
			t.Errorf("%s: %d bytes, %d, want %d", c.name, len(b), errno, c.want)
		}
		checkWrite(t, c.objs)
	}
}

// longTree is a Tree that may be, of more than MaxObj bytes.
func longTree() []byte {
	o := obj.Obj{Kind: obj.Tree}
	for i := range 256 {
		name := fmt.Sprintf("%064d", i)
		o.Items = append(o.Items, obj.Item{Mode: api.Plain, Name: name, ID: idOf([]byte(name))})
	}
	return mustEncode(o)
}

func TestWriteAtTheLimits(t *testing.T) { // P10.1
	for _, count := range []int{127, 128, 511, 512} {
		b := checkWrite(t, slices.Repeat([][]byte{blob("one")}, count))
		if l, n, errno := pack.Parse(b, nothing); errno != api.OK || n != count || len(l) != count {
			t.Errorf("%d objects: %d, %d, %d", count, len(l), n, errno)
		}
	}
	for _, size := range []int{126, 127, 128, 19998, 19999} {
		o := blob(string(unlike(size, size)))
		b := checkWrite(t, [][]byte{o, o})
		if want := packOf(wholeOf(o), aheadOf(1, delta.Make(o, o))); !bytes.Equal(b, want) {
			t.Errorf("a blob of %d bytes: % .60x", size, b)
		}
	}
	// The one that is far back is told in two bytes.
	for _, between := range []int{126, 127, 128, 500} {
		objs := [][]byte{numbered(1)[0]}
		for range between {
			objs = append(objs, tree())
		}
		objs = append(objs, numbered(2)[1])
		b := checkWrite(t, objs)
		if l, _, errno := pack.Parse(b, nothing); errno != api.OK || !sameObjs(l, objs) {
			t.Errorf("%d between: %d", between, errno)
		}
	}
}

func TestWriteOfRandomObjects(t *testing.T) { // P10.1
	r := rand.New(rand.NewSource(1))
	runs := 2000
	if testing.Short() {
		runs = 300
	}
	for range runs {
		objs := someObjs(r, r.Intn(40))
		if r.Intn(10) == 0 && len(objs) > 0 {
			at := r.Intn(len(objs))
			objs[at] = objs[at][:r.Intn(len(objs[at]))]
		}
		checkWrite(t, objs)
	}
}
