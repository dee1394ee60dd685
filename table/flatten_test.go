package table_test

import (
	"fmt"
	"math/rand"
	"slices"
	"strings"
	"testing"

	"marline/api"
	"marline/obj"
	"marline/reach"
	"marline/table"
)

func wantRows(t *testing.T, src reach.Source, tree string, want ...api.Row) {
	t.Helper()
	if l, errno := table.Flatten(src, tree); errno != api.OK || !slices.Equal(l, want) {
		t.Errorf("Flatten = %.500v, %d, want %.500v", l, errno, want)
	}
}

// wantErrno holds that one of the errors is answered, and nothing beside it.
func wantErrno(t *testing.T, src reach.Source, tree string, want ...api.Errno) {
	t.Helper()
	if l, errno := table.Flatten(src, tree); len(l) > 0 || !slices.Contains(want, errno) {
		t.Errorf("Flatten = %.500v, %d, want one of %d", l, errno, want)
	}
}

func TestFlatten(t *testing.T) { // P16.1
	s := shelf{}
	empty := s.add()
	a := s.add(in("a/run", api.Exec), in("a/to", api.Link))
	deep := s.add(in("b/x/y", api.Plain))
	b := s.add(in("b/f", api.Link), dir("x", deep))
	top := s.add(dir("a", a), dir("b", b), in("c", api.Plain), dir("d", empty))
	wantRows(t, s.source, empty)
	wantRows(t, s.source, a, api.Row{Path: "run", Entry: row("a/run", api.Exec).Entry}, api.Row{Path: "to", Entry: row("a/to", api.Link).Entry})
	wantRows(t, s.source, top, row("a/run", api.Exec), row("a/to", api.Link), row("b/f", api.Link), row("b/x/y", api.Plain), row("c", api.Plain))
	wantRows(t, s.source, s.add(dir("e", empty), dir("f", s.add(dir("g", empty)))))
}

// Names rise in a tree, paths in a table: that is not the same order.
func TestFlattenRises(t *testing.T) { // P16.1
	s := shelf{}
	a := s.add(in("a/b", api.Plain), in("a/~", api.Plain))
	top := s.add(dir("a", a), in("a!", api.Exec), in("a-b", api.Link), in("a0", api.Plain), dir("b", s.add(in("b/a", api.Exec))), in("b.", api.Link))
	wantRows(t, s.source, top, row("a!", api.Exec), row("a-b", api.Link), row("a/b", api.Plain), row("a/~", api.Plain), row("a0", api.Plain), row("b.", api.Link), row("b/a", api.Exec))
}

// One tree may stand at several paths.
func TestFlattenOfLikeTrees(t *testing.T) { // P16.1
	s := shelf{}
	one := s.add(file("f"), file("g"))
	two := s.add(dir("x", one), dir("y", one))
	var want []api.Row
	for _, path := range []string{"p/x/f", "p/x/g", "p/y/f", "p/y/g", "q/f", "q/g", "r/x/f", "r/x/g", "r/y/f", "r/y/g"} {
		want = append(want, api.Row{Path: path, Entry: api.Entry{Mode: api.Plain, ID: id(path[len(path)-1:])}})
	}
	wantRows(t, s.source, s.add(dir("p", two), dir("q", one), dir("r", two)), want...)
}

func TestFlattenOfWhatIsNotTold(t *testing.T) { // P16.1
	s := shelf{}
	fine := s.add(file("f"))
	gone := id("gone")
	for _, tree := range []string{
		gone, "", "x", made(1), s.add(dir("d", gone)), s.add(file("a"), dir("d", gone)), s.add(dir("d", fine), dir("e", gone)), s.add(dir("d", gone), dir("e", fine)), s.below(gone, 3), s.add(dir("a", s.below(gone, 2)), file("b")),
	} {
		wantErrno(t, s.source, tree, api.ErrNone)
	}
	// What files have is not asked of.
	wantRows(t, s.source, fine, api.Row{Path: "f", Entry: api.Entry{Mode: api.Plain, ID: id("f")}})
	wantErrno(t, nil, fine, api.ErrNone)
	wantErrno(t, func(string) ([]byte, bool) { panic("no source") }, fine, api.ErrNone)
	b := s[fine]
	wantErrno(t, func(string) ([]byte, bool) { return b, false }, fine, api.ErrNone)
}

func TestFlattenOfWhatIsNone(t *testing.T) { // P16.1
	s := shelf{}
	fine := s.add(file("f"))
	blob := s.put([]byte{1, 'x'})
	commit, _ := obj.Encode(obj.Obj{Kind: obj.Commit, Tree: fine})
	for _, tree := range []string{
		blob, s.put(commit), s.put(nil), s.put([]byte{}), s.put([]byte{9}), s.put([]byte{2}), s.put([]byte{2, 1}), s.put([]byte{2, 0, 0}), s.put([]byte{1}), s.put([]byte{0}), s.put([]byte{2, 128, 0}),
		s.put(s[fine][:len(s[fine])-1]), s.put(append(slices.Clone(s[fine]), 0)),
	} {
		wantErrno(t, s.source, tree, api.ErrForm)
		wantErrno(t, s.source, s.add(dir("d", tree)), api.ErrForm)
		wantErrno(t, s.source, s.add(file("a"), dir("d", fine), dir("e", tree), dir("f", fine)), api.ErrForm)
		wantErrno(t, s.source, s.below(tree, 4), api.ErrForm)
	}
	// A file may have whatever hash, also a tree's, or a blob's that is told.
	wantRows(t, s.source, s.add(obj.Item{Mode: api.Exec, Name: "a", ID: blob}, obj.Item{Mode: api.Link, Name: "b", ID: fine}),
		api.Row{Path: "a", Entry: api.Entry{Mode: api.Exec, ID: blob}}, api.Row{Path: "b", Entry: api.Entry{Mode: api.Link, ID: fine}})
}

// A source that has other bytes at a hash is taken at its word.
func TestFlattenOfMadeHashes(t *testing.T) { // P16.1
	s := shelf{"top": encoded(dir("a", made(1)), file("b")), made(1): encoded(file("c"))}
	wantRows(t, s.source, "top", api.Row{Path: "a/c", Entry: api.Entry{Mode: 1, ID: id("c")}}, row("b", 1))
}

func TestFlattenOfPaths(t *testing.T) { // P16.1
	s := shelf{}
	at := func(path string) string {
		l := strings.Split(path, "/")
		tree := s.add(file(l[len(l)-1]))
		for _, name := range slices.Backward(l[:len(l)-1]) {
			tree = s.add(dir(name, tree))
		}
		return tree
	}
	for _, path := range []string{"a", "a/b", pathOf(7, 13), pathOf(8, 15), pathOf(4, 199), pathOf(4, 200), pathOf(7, 198), pathOf(8, 200), pathOf(1, 64)} {
		name := path[strings.LastIndex(path, "/")+1:]
		wantRows(t, s.source, at(path), api.Row{Path: path, Entry: api.Entry{Mode: 1, ID: id(name)}})
	}
	for _, path := range []string{pathOf(9, 17), pathOf(10, 19), pathOf(30, 59), pathOf(4, 201), pathOf(4, 202), pathOf(4, 259), pathOf(8, 201), pathOf(5, 300), pathOf(1000, 1999)} {
		wantErrno(t, s.source, at(path), api.ErrName)
		wantErrno(t, s.source, s.add(file("a"), dir("b", s.add(file("c"))), dir("d", at(path))), api.ErrName)
	}
	// Beside it stand others that may be.
	long := strings.Repeat("y", 60)
	fits := s.add(file("12345678901234567"))
	over := s.add(file("12345678901234567"), file("123456789012345678"))
	wantRows(t, s.source, s.add(dir(long, s.add(dir(long, s.add(dir(long, fits)))))), api.Row{Path: strings.Repeat(long+"/", 3) + "12345678901234567", Entry: api.Entry{Mode: 1, ID: id("12345678901234567")}})
	wantErrno(t, s.source, s.add(dir(long, s.add(dir(long, s.add(dir(long, over)))))), api.ErrName)
}

func TestFlattenOfManyRows(t *testing.T) { // P16.1
	s := shelf{}
	files := func(n int) []obj.Item {
		var l []obj.Item
		for i := range n {
			l = append(l, in(fmt.Sprintf("%03d", i), api.Plain))
		}
		return l
	}
	full := s.add(files(256)...)
	wantRows(t, s.source, full, numbered(256)...)
	wantRows(t, s.source, s.add(files(255)...), numbered(255)...)
	one := s.add(file("f"))
	last := api.Row{Path: "x/f", Entry: api.Entry{Mode: 1, ID: id("f")}}
	wantRows(t, s.source, s.add(append(files(255), dir("x", one))...), append(numbered(255), last)...)
	wantRows(t, s.source, s.add(append(files(254), dir("x", one), dir("y", s.add()))...), append(numbered(254), last)...)
	half := s.add(files(128)...)
	if l, errno := table.Flatten(s.source, s.add(dir("a", half), dir("b", half))); len(l) != 256 || errno != api.OK || l[0].Path != "a/000" || l[255].Path != "b/127" {
		t.Errorf("Flatten of two halves = %d rows, %d", len(l), errno)
	}
	for _, tree := range []string{
		s.add(file("!"), dir("b", full)), s.add(dir("b", full), file("~")), s.add(dir("a", full), dir("b", full)), s.add(dir("a", half), dir("b", half), file("c")), s.add(dir("a", one), dir("b", full)),
		s.add(append(files(255), dir("x", s.add(file("f"), file("g"))))...), s.add(append(files(254), dir("x", one), dir("y", s.add(file("f"), file("g"))))...),
	} {
		wantErrno(t, s.source, tree, api.ErrLimit)
	}
}

// wide is a tree that so many more trees are reached from, each once: at most
// 255 by each tree of the second row. Each has a hash of its own.
func wide(count int) (shelf, string) {
	s := shelf{}
	next := 0
	tree := func(items ...obj.Item) string {
		next++
		s[made(next)] = encoded(items...)
		return made(next)
	}
	var above []obj.Item
	for count > 0 {
		n := min(count, 256)
		var items []obj.Item
		for i := range n - 1 {
			items = append(items, dir(fmt.Sprintf("%03d", i), tree()))
		}
		above = append(above, dir(fmt.Sprintf("%03d", len(above)), tree(items...)))
		count -= n
	}
	return s, tree(above...)
}

func TestFlattenOfManyTrees(t *testing.T) { // P16.1
	for _, c := range []struct{ trees, errno int }{{1, 0}, {1000, 0}, {1998, 0}, {1999, 0}, {2000, int(api.ErrLimit)}, {2001, int(api.ErrLimit)}, {4000, int(api.ErrLimit)}, {20000, int(api.ErrLimit)}} {
		s, top := wide(c.trees)
		if l, errno := table.Flatten(s.source, top); len(l) > 0 || int(errno) != c.errno {
			t.Errorf("Flatten of a tree and %d more = %v, %d, want %d", c.trees, l, errno, c.errno)
		}
	}
	// Their rows are told up to the last tree.
	s, top := wide(1999)
	for i := range 200 {
		s[made(10*i+1)] = encoded(file("f"))
	}
	l, errno := table.Flatten(s.source, top)
	if len(l) != 200 || errno != api.OK || l[0].Path != "000/000/f" || l[199].ID != id("f") {
		t.Errorf("Flatten of 2000 trees = %d rows, %d", len(l), errno)
	}
	// Beside too many trees one may lack, or be none.
	s, top = wide(2001)
	s[made(1)] = []byte{9}
	wantErrno(t, s.source, top, api.ErrForm, api.ErrLimit)
	delete(s, made(1))
	wantErrno(t, s.source, top, api.ErrNone, api.ErrLimit)
}

// The greatest tables: 256 files, each the deepest of directories of its own.
func TestFlattenOfTheDeepestFiles(t *testing.T) { // P16.1
	s := shelf{}
	var items []obj.Item
	var want []api.Row
	for i := range 256 {
		name := fmt.Sprintf("%03d", i)
		tree := s.add(file(name))
		for range 6 {
			tree = s.add(dir("d", tree))
		}
		items = append(items, dir(name, tree))
		want = append(want, api.Row{Path: name + "/d/d/d/d/d/d/" + name, Entry: api.Entry{Mode: api.Plain, ID: id(name)}})
	}
	wantRows(t, s.source, s.add(items...), want...)
}

func TestSeveralErrorsOfFlatten(t *testing.T) { // P16.1
	s := shelf{}
	gone, blob := id("gone"), s.put([]byte{1})
	deep := s.below(s.add(file("f")), 8)
	var many []obj.Item
	for i := range 256 {
		many = append(many, file(fmt.Sprintf("%03d", i)))
	}
	full := s.add(many...)
	for _, c := range []struct {
		tree string
		want []api.Errno
	}{
		{s.add(dir("a", gone), dir("b", blob)), []api.Errno{api.ErrNone, api.ErrForm}},
		{s.add(dir("a", blob), dir("b", gone)), []api.Errno{api.ErrNone, api.ErrForm}},
		{s.add(dir("a", deep), dir("b", gone)), []api.Errno{api.ErrNone, api.ErrName}},
		{s.add(dir("a", blob), dir("b", deep)), []api.Errno{api.ErrForm, api.ErrName}},
		{s.add(dir("a", full), dir("b", full), dir("c", gone)), []api.Errno{api.ErrNone, api.ErrLimit}},
		{s.add(dir("a", blob), dir("b", full), dir("c", full)), []api.Errno{api.ErrForm, api.ErrLimit}},
		{s.add(dir("a", full), dir("b", deep), dir("c", full)), []api.Errno{api.ErrName, api.ErrLimit}},
		{s.below(full, 9), []api.Errno{api.ErrName}},
		{s.below(gone, 9), []api.Errno{api.ErrNone, api.ErrName}},
	} {
		wantErrno(t, s.source, c.tree, c.want...)
	}
}

// A source may tell trees that have themselves, and ladders of trees with more
// ways down than could be gone one by one: each call ends.
func TestFlattenOfRings(t *testing.T) { // P16.1, P0.1
	s := shelf{}
	s[made(1)] = encoded(dir("d", made(1)), file("f"))
	s[made(2)] = encoded(dir("a", made(3)), file("f"))
	s[made(3)] = encoded(dir("b", made(4)), dir("c", made(2)))
	s[made(4)] = encoded()
	s[made(5)] = encoded(dir("x", made(5)), dir("y", made(5)), file("z"))
	for n := 1; n <= 5; n++ {
		if n != 4 {
			wantErrno(t, s.source, made(n), api.ErrName, api.ErrLimit)
		}
	}
	tree := s.add(file("f"))
	for range 7 {
		var items []obj.Item
		for i := range 256 {
			items = append(items, dir(fmt.Sprintf("%03d", i), tree))
		}
		tree = s.add(items...)
	}
	wantErrno(t, s.source, tree, api.ErrLimit)
	// Without any file there is nothing that could have a path.
	s[made(6)] = encoded(dir(strings.Repeat("x", 64), made(6)))
	if l, _ := table.Flatten(s.source, made(6)); len(l) > 0 {
		t.Errorf("Flatten of a ring without files = %v", l)
	}
}

// flattenModel goes down by calls, and answers the errors that hold.
func flattenModel(s shelf, tree, ahead string) (l []api.Row, errnos []api.Errno) {
	b, told := s[tree]
	if !told {
		return nil, []api.Errno{api.ErrNone}
	}
	o, errno := obj.Decode(b)
	if errno != api.OK || o.Kind != obj.Tree {
		return nil, []api.Errno{api.ErrForm}
	}
	for _, item := range o.Items {
		path := ahead + item.Name
		if item.Mode == api.Dir {
			rows, more := flattenModel(s, item.ID, path+"/")
			l, errnos = append(l, rows...), append(errnos, more...)
			continue
		}
		if strings.Count(path, "/") >= 8 || len(path) > 200 {
			errnos = append(errnos, api.ErrName)
		}
		l = append(l, api.Row{Path: path, Entry: api.Entry{Mode: item.Mode, ID: item.ID}})
	}
	if len(l) > 256 {
		errnos = append(errnos, api.ErrLimit)
	}
	slices.SortFunc(l, func(a, b api.Row) int { return strings.Compare(a.Path, b.Path) })
	return l, errnos
}

// randomShelf has trees that have trees ahead of them; some lack, some are none.
func randomShelf(r *rand.Rand) (shelf, string) {
	s := shelf{}
	trees := []string{s.add()}
	for range 1 + r.Intn(12) {
		var items []obj.Item
		for _, name := range []string{"a", "a-b", "a.c", "a0", "b", strings.Repeat("y", 60)} {
			switch k := r.Intn(200); {
			case k == 0:
				items = append(items, dir(name, id("gone")))
			case k == 1:
				items = append(items, dir(name, s.put([]byte{1, 'x'})))
			case k < 40:
				items = append(items, dir(name, trees[r.Intn(len(trees))]))
			case k < 50:
				items = append(items, dir(name, trees[len(trees)-1]))
			case k < 90:
				items = append(items, obj.Item{Mode: 1 + k%3, Name: name, ID: id(name)})
			}
		}
		trees = append(trees, s.add(items...))
	}
	return s, trees[len(trees)-1]
}

func TestFlattenAsTheModel(t *testing.T) { // P16.1
	r := rand.New(rand.NewSource(162))
	n := rounds(10000)
	fine := 0
	for range n {
		s, top := randomShelf(r)
		want, errnos := flattenModel(s, top, "")
		if len(errnos) > 0 {
			wantErrno(t, s.source, top, errnos...)
			continue
		}
		wantRows(t, s.source, top, want...)
		if len(want) > 5 {
			fine++
		}
		if t.Failed() {
			t.FailNow()
		}
	}
	if fine < n/5 || fine > n*4/5 {
		t.Errorf("of %d trees %d have many rows", n, fine)
	}
}
