package table_test

import (
	"math"
	"math/rand"
	"regexp"
	"slices"
	"strings"
	"testing"

	"marline/api"
	"marline/table"
)

// wantMay holds May, and what Build says of a table that may not be.
func wantMay(t *testing.T, what string, l []api.Row, want bool) {
	t.Helper()
	if got := table.May(l); got != want {
		t.Errorf("May of %s = %t: %.300v", what, got, l)
	}
	top, trees, errno := table.Build(l)
	if want && (errno != api.OK || top == "" || len(trees) == 0) {
		t.Errorf("Build of %s = %q, %d trees, %d", what, top, len(trees), errno)
	}
	if !want && (errno != api.ErrRange || top != "" || len(trees) > 0) {
		t.Errorf("Build of %s = %q, %d trees, %d, want an error", what, top, len(trees), errno)
	}
}

func TestMayOfOrder(t *testing.T) { // P16.1, P16.2
	for _, l := range [][]api.Row{
		nil, {}, rows("a"), rows("a", "b"), rows("A", "a"), rows("10", "2"), rows("!", "~"), rows("a", "a-b", "a.b/c", "a0"), rows("a-b", "a/b", "a0"), rows("a", "aa", "aaa"),
	} {
		wantMay(t, "rising rows", l, true)
	}
	for _, l := range [][]api.Row{
		rows("b", "a"), rows("a", "a"), rows("a", "b", "b"), rows("a", "a", "b"), rows("a", "c", "b"), rows("b", "a", "c"), rows("a", "A"), rows("2", "10"), rows("a/b", "a-b"), rows("a/b", "a/b"), rows("a0", "a/b"),
		{row("a", api.Plain), row("a", api.Exec)},
		{{Path: "a", Entry: api.Entry{Mode: 1, ID: id("1")}}, {Path: "a", Entry: api.Entry{Mode: 1, ID: id("2")}}},
	} {
		wantMay(t, "rows that don't rise", l, false)
	}
}

func TestMayOfCounts(t *testing.T) { // P16.1
	for _, n := range []int{0, 1, 2, 255, 256} {
		wantMay(t, "so many rows", numbered(n), true)
	}
	for _, n := range []int{257, 258, 512, 999} {
		wantMay(t, "too many rows", numbered(n), false)
	}
}

// A table's paths stand in `w`: a name and two bytes are that one's.
func TestMayOfPaths(t *testing.T) { // P16.1
	for _, path := range []string{
		"a", "a/b", "*", "~", "...", "w", "w/w", "a/b/c/d/e/f/g", pathOf(1, 64), pathOf(4, 197), pathOf(4, 198), pathOf(7, 198), pathOf(7, 13), strings.Repeat("x", 64) + "/a",
	} {
		wantMay(t, "a path", rows(path), true)
	}
	for _, path := range []string{
		"", "/", "/a", "a/", "a//b", ".", "..", "./a", "../a", "a/..", "a/./b", "a/../b", "a b", "a\n", "é", "\x7f", "a/\x00", "\xff",
		"a/b/c/d/e/f/g/h", pathOf(8, 15), pathOf(9, 17), pathOf(4, 199), pathOf(4, 200), pathOf(7, 199), pathOf(4, 201),
		strings.Repeat("x", 65), "a/" + strings.Repeat("x", 65), strings.Repeat("x", 65) + "/a", strings.Repeat("x/", 1<<16) + "x", strings.Repeat("x", 1<<16),
	} {
		wantMay(t, "what is no path", rows(path), false)
		wantMay(t, "what is no path, among others", []api.Row{row("!", 1), row(path, 1), row("~~~", 1)}, false)
	}
}

func TestMayOfModes(t *testing.T) { // P16.1
	for mode := -3; mode <= 300; mode++ {
		wantMay(t, "a mode", []api.Row{row("a", mode)}, mode >= 1 && mode <= 3)
		wantMay(t, "a mode behind others", []api.Row{row("a", 1), row("b/c", mode)}, mode >= 1 && mode <= 3)
	}
	for _, mode := range []int{math.MinInt, math.MaxInt, 1 << 32, 1<<32 + 1, 1<<8 + 1} {
		wantMay(t, "a mode", []api.Row{row("a", mode)}, false)
	}
}

func TestMayOfHashes(t *testing.T) { // P16.1
	with := func(id string) []api.Row {
		return []api.Row{row("a", 1), {Path: "b", Entry: api.Entry{Mode: 1, ID: id}}, row("c", 1)}
	}
	fine := id("x")
	for _, h := range []string{fine, strings.Repeat("0", 64), strings.Repeat("f", 64), strings.Repeat("a9", 32)} {
		wantMay(t, "a hash", with(h), true)
	}
	for _, h := range []string{
		"", "x", fine[:63], fine[1:], fine + "0", fine + fine, strings.ToUpper(strings.Repeat("a", 64)), strings.Repeat("g", 64), " " + fine[1:], fine[:63] + "\n", fine[:63] + "G", fine[:62] + "é", strings.Repeat("/", 64), strings.Repeat(":", 64), strings.Repeat("`", 64),
	} {
		wantMay(t, "what is no hash", with(h), false)
		wantMay(t, "what is no hash, alone", with(h)[1:2], false)
	}
}

func TestMayOfFilesAsDirectories(t *testing.T) { // P16.1
	for _, l := range [][]api.Row{
		rows("a", "ab/c"), rows("a/b", "a/c"), rows("a/b/c", "a/bb"), rows("a", "b/a"), rows("a/b", "b/b"), rows("a-b", "a/b"), rows("a", "a-b/a"), rows("b/a", "b/b/a", "b/c"),
	} {
		wantMay(t, "files aside", l, true)
	}
	for _, l := range [][]api.Row{
		rows("a", "a/b"), rows("a", "a/b/c/d"), rows("a", "a-b", "a/b"), rows("a", "a!", "a-b", "a.c", "a/b"), rows("a/b", "a/b/c"), rows("a/b", "a/b!/x", "a/b/c/d"), rows("a", "b", "b/c"), rows("a", "a/b", "c"), rows("x/x", "x/x/x"), rows("a/b/c/d/e/f", "a/b/c/d/e/f/g"),
	} {
		wantMay(t, "a file as a directory", l, false)
	}
	most := numbered(254)
	wantMay(t, "many files", append(slices.Clone(most), rows("x", "y/z")...), true)
	wantMay(t, "many files, the last one below another one", append(slices.Clone(most), rows("x", "x/z")...), false)
	wantMay(t, "many files, the last one below the first one", append(rows("000"), append(most[1:], row("000/z", 1))...), false)
}

// The forms say the words of a table in another way.
var (
	pathForm = regexp.MustCompile(`^[!-.0-~]{1,64}(/[!-.0-~]{1,64}){0,6}$`)
	dotForm  = regexp.MustCompile(`(^|/)\.\.?(/|$)`)
	hashForm = regexp.MustCompile(`^[0-9a-f]{64}$`)
)

func mayModel(l []api.Row) bool {
	for i, r := range l {
		if !pathForm.MatchString(r.Path) || dotForm.MatchString(r.Path) || len(r.Path) > 198 || r.Mode < 1 || r.Mode > 3 || !hashForm.MatchString(r.ID) {
			return false
		}
		for _, other := range l[:i] {
			if strings.Compare(other.Path, r.Path) >= 0 || strings.HasPrefix(r.Path, other.Path+"/") {
				return false
			}
		}
	}
	return len(l) <= 256
}

// All lists of up to three of some paths.
func TestMayOfAllShortLists(t *testing.T) { // P16.1
	paths := []string{"", "a", "a-b", "a/", "a/b", "a/b/c", "a/b/d", "a0", "b"}
	lists := [][]api.Row{nil}
	for at := 0; at < len(lists); at++ {
		l := lists[at]
		wantMay(t, "a list", l, mayModel(l))
		for _, path := range paths {
			if len(l) < 3 {
				lists = append(lists, append(slices.Clone(l), row(path, 1)))
			}
		}
	}
}

// randomRows are a table more often than not, where they are few.
func randomRows(r *rand.Rand, count int) []api.Row {
	var l []api.Row
	for range count {
		var names []string
		for range 1 + r.Intn(3) {
			names = append(names, []string{"a", "b", "c", "a-b", "a.c", "dd", "e0"}[r.Intn(7)])
		}
		path := strings.Join(names, "/")
		if r.Intn(100) == 0 {
			path = []string{"", "a/..", "/a", pathOf(8, 15), "é"}[r.Intn(5)]
		}
		e := api.Entry{Mode: 1 + r.Intn(3), ID: id([]string{"x", "y"}[r.Intn(2)])}
		if r.Intn(100) == 0 {
			e = []api.Entry{{}, {Mode: 4, ID: id("x")}, {Mode: 1}, {Mode: 1, ID: id("x")[1:]}}[r.Intn(4)]
		}
		l = append(l, api.Row{Path: path, Entry: e})
	}
	if r.Intn(50) > 0 {
		slices.SortFunc(l, func(a, b api.Row) int { return strings.Compare(a.Path, b.Path) })
	}
	if r.Intn(50) > 0 {
		l = slices.CompactFunc(l, func(a, b api.Row) bool { return a.Path == b.Path })
	}
	if r.Intn(20) > 0 {
		all := slices.Clone(l)
		l = slices.DeleteFunc(l, func(a api.Row) bool {
			return slices.ContainsFunc(all, func(b api.Row) bool { return strings.HasPrefix(b.Path, a.Path+"/") })
		})
	}
	return l
}

func TestMayAsTheModel(t *testing.T) { // P16.1
	r := rand.New(rand.NewSource(161))
	n := rounds(20000)
	fine := 0
	for range n {
		l := randomRows(r, r.Intn(12))
		want := mayModel(l)
		wantMay(t, "random rows", l, want)
		if want {
			fine++
		}
	}
	if fine < n/3 || fine > n*19/20 {
		t.Errorf("of %d rows %d are tables", n, fine)
	}
}
