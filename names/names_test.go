package names_test

import (
	"math"
	"math/rand"
	"regexp"
	"slices"
	"strings"
	"testing"

	"marline/api"
	"marline/names"
)

// allTexts is each text of up to so many letters of the alphabet.
func allTexts(alphabet string, longest int) []string {
	texts := []string{""}
	for start := 0; len(texts[start]) < longest; start++ {
		for i := range len(alphabet) {
			texts = append(texts, texts[start]+alphabet[i:i+1])
		}
	}
	return texts
}

var nameForm = regexp.MustCompile(`^[!-.0-~]{1,64}$`)

// isName says P4.1's words of a name in another way.
func isName(s string) bool {
	return nameForm.MatchString(s) && s != "." && s != ".."
}

// pathNames is the names of a path by P4.1's words; none, if s is no path.
func pathNames(s string) []string {
	l := strings.Split(s, "/")
	if len(s) > 200 || len(l) > 8 || slices.ContainsFunc(l, func(name string) bool { return !isName(name) }) {
		return nil
	}
	return l
}

func randomName(r *rand.Rand, longest int) string {
	b := make([]byte, 1+r.Intn(longest))
	for i := range b {
		b[i] = "abcxyz~*-_!"[r.Intn(11)]
	}
	return string(b)
}

// randomPath is a path more often than not: it may be too long or too deep,
// or have a name that may not be.
func randomPath(r *rand.Rand) string {
	l := make([]string, 1+r.Intn(9))
	for i := range l {
		l[i] = randomName(r, 1+r.Intn(40))
		if r.Intn(40) == 0 {
			l[i] = []string{"", ".", "..", " ", "\x7f", "é", strings.Repeat("x", 65)}[r.Intn(7)]
		}
	}
	return strings.Join(l, "/")
}

func TestNameOfEachByte(t *testing.T) { // P4.1
	for c := range 256 {
		b := string([]byte{byte(c)})
		want := c >= 33 && c <= 126 && c != '/'
		for _, s := range []string{b + "aa", "a" + b + "a", "aa" + b, b + b + b, strings.Repeat("a", 63) + b} {
			if names.Name(s) != want {
				t.Errorf("Name(%q) = %v", s, !want)
			}
		}
		if want = want && c != '.'; names.Name(b) != want {
			t.Errorf("Name(%q) = %v", b, !want)
		}
	}
}

func TestNameOfEachLength(t *testing.T) { // P4.1
	for n := range 300 {
		for _, c := range []string{"x", "!", "~", "*"} {
			s := strings.Repeat(c, n)
			if want := n >= 1 && n <= api.MaxName; names.Name(s) != want {
				t.Errorf("Name of %d times %q = %v", n, c, !want)
			}
		}
	}
	if names.Name(strings.Repeat("x", 1<<20)) {
		t.Error("a name of 2^20 bytes")
	}
}

func TestNameOfDots(t *testing.T) { // P4.1
	for s, want := range map[string]bool{".": false, "..": false, "...": true, "....": true, ".a": true, "a.": true, "..a": true, "a..": true, ".~": true, "*.": true} {
		if names.Name(s) != want {
			t.Errorf("Name(%q) = %v", s, !want)
		}
	}
}

func checkPath(t *testing.T, s string) {
	t.Helper()
	want := pathNames(s)
	if got := names.Path(s); got != (len(want) > 0) {
		t.Errorf("Path(%q) = %v", s, got)
	}
	if got := names.Split(s); !slices.Equal(got, want) {
		t.Errorf("Split(%q) = %q, want %q", s, got, want)
	}
}

func TestPathsOfAllShortTexts(t *testing.T) { // P4.1
	for _, s := range allTexts("a./ ", 7) {
		checkPath(t, s)
	}
}

func TestPathOfExamples(t *testing.T) { // P4.1
	for s, want := range map[string]bool{
		"a/../b": false, "a/./b": false, "../a": false, "a/..": false, "a/.../b": true, "a/b/c": true, "": false, "/": false, "//": false,
		"/a": false, "a/": false, "a//b": false, "a b/c": false, "a/b\n": false, "é/a": false, "a/\x00": false, "a\\b": true, "*/~": true,
	} {
		if names.Path(s) != want {
			t.Errorf("Path(%q) = %v", s, !want)
		}
		checkPath(t, s)
	}
}

// pathOf is the path of so many names and bytes, one letter at least each.
func pathOf(depth, size int) string {
	l := make([]string, depth)
	left := size - (depth - 1) - depth
	for i := range l {
		more := min(left, api.MaxName-1)
		l[i] = strings.Repeat("x", 1+more)
		left -= more
	}
	return strings.Join(l, "/")
}

func TestPathAtItsBounds(t *testing.T) { // P4.1
	for depth := 1; depth <= 20; depth++ {
		for size := 2*depth - 1; size <= 210 && size <= 65*depth-1; size++ {
			s := pathOf(depth, size)
			want := depth <= api.MaxDepth && size <= api.MaxPath
			if len(s) != size || names.Path(s) != want {
				t.Fatalf("Path of %d names, %d bytes = %v", depth, len(s), !want)
			}
			checkPath(t, s)
		}
	}
	long := strings.Repeat("x", api.MaxName)
	for _, s := range []string{long, long + "/" + long, "x" + long + "/a", "a/x" + long, strings.Repeat("a/", 1<<20) + "a", strings.Repeat("/", 1<<20)} {
		checkPath(t, s)
	}
}

func checkJoin(t *testing.T, l []string) {
	t.Helper()
	want, wantErrno := strings.Join(l, "/"), api.OK
	if len(l) == 0 || slices.ContainsFunc(l, func(name string) bool { return !isName(name) }) || pathNames(want) == nil {
		want, wantErrno = "", api.ErrName
	}
	if got, errno := names.Join(l); got != want || errno != wantErrno {
		t.Errorf("Join(%q) = %q, %d; want %q, %d", l, got, errno, want, wantErrno)
	}
}

func TestJoin(t *testing.T) { // P4.1
	long := strings.Repeat("x", api.MaxName)
	for _, l := range [][]string{
		nil, {}, {""}, {"a"}, {"a", "b"}, {"a", "b", "c"}, {"a/b"}, {"a/b", "c"}, {"a", "b/c"}, {"a", ""}, {"", "a"}, {"a", "", "b"}, {"/"}, {"a/"},
		{"."}, {".."}, {"a", "."}, {"..", "a"}, {"...", "a"}, {"a b"}, {"a", "é"}, {long}, {long + "x"}, {"a", long + "x"},
		{long, long, long}, {long, long, long, "12345"}, {long, long, long, "123456"}, {long, long, long, long},
		strings.Split(pathOf(8, 15), "/"), strings.Split(pathOf(9, 17), "/"), strings.Split(pathOf(8, 200), "/"), strings.Split(pathOf(8, 201), "/"),
		slices.Repeat([]string{"a"}, 1<<16),
	} {
		checkJoin(t, l)
	}
}

func TestJoinOfAllShortLists(t *testing.T) { // P4.1
	pieces := []string{"", "a", "b", ".", "..", "a/b", " "}
	for _, first := range pieces {
		for _, second := range pieces {
			for _, third := range pieces {
				checkJoin(t, []string{first, second})
				checkJoin(t, []string{first, second, third})
			}
		}
	}
}

func checkUnder(t *testing.T, dir, s string) {
	t.Helper()
	want := pathNames(dir) != nil && pathNames(s) != nil && len(s) > len(dir)+1 && s[:len(dir)] == dir && s[len(dir)] == '/'
	if got := names.Under(dir, s); got != want {
		t.Errorf("Under(%q, %q) = %v", dir, s, got)
	}
}

func TestUnderOfAllShortTexts(t *testing.T) { // P4.2
	texts := allTexts("ab/", 5)
	for _, dir := range allTexts("ab/.", 3) {
		for _, s := range texts {
			checkUnder(t, dir, s)
		}
	}
}

func TestUnder(t *testing.T) { // P4.2
	for _, c := range []struct {
		dir, s string
		want   bool
	}{
		{"a", "a/b", true}, {"a", "a/b/c", true}, {"a/b", "a/b/c", true}, {"a", "a", false}, {"a/b", "a", false}, {"a", "ab", false}, {"a", "ab/c", false},
		{"b", "a/b/c", false}, {"b/c", "a/b/c", false}, {"a/c", "a/b/c", false}, {"A", "a/b", false}, {"", "a", false}, {"", "", false}, {"", "/a", false},
		{"a/", "a/b", false}, {"a", "a/", false}, {"a", "a//b", false}, {"a", "a/..", false}, {"..", "../a", false}, {".", "./a", false}, {"a", "a/b c", false},
		{pathOf(7, 13), pathOf(8, 15), true}, {pathOf(8, 15), pathOf(8, 15) + "/a", false}, {pathOf(7, 13), pathOf(9, 17), false},
		{pathOf(3, 194), pathOf(3, 194) + "/12345", true}, {pathOf(3, 194), pathOf(3, 194) + "/123456", false},
		{"*", "*/a", true}, {"*", "a/b", false},
	} {
		if got := names.Under(c.dir, c.s); got != c.want {
			t.Errorf("Under(%q, %q) = %v", c.dir, c.s, got)
		}
	}
}

func TestParents(t *testing.T) { // P4.2
	for s, want := range map[string][]string{
		"a/b/c": {"a", "a/b"}, "a/b": {"a"}, "a": nil, "": nil, "/": nil, "a/": nil, "/a": nil, "a//b": nil, "a/../b": nil, "a/b/.": nil, "a/b c": nil,
		"aa/a/aaa": {"aa", "aa/a"}, "a/a/a/a": {"a", "a/a", "a/a/a"}, pathOf(9, 17): nil, pathOf(8, 201): nil,
		pathOf(8, 15): {"x", "x/x", "x/x/x", "x/x/x/x", "x/x/x/x/x", "x/x/x/x/x/x", "x/x/x/x/x/x/x"},
	} {
		if got := names.Parents(s); !slices.Equal(got, want) {
			t.Errorf("Parents(%q) = %q, want %q", s, got, want)
		}
	}
}

func TestCopy(t *testing.T) { // P4.4
	marks := strings.Repeat("~", 100)
	for _, c := range []struct {
		s, id string
		n     int
		want  string
	}{
		{"a", "0123456789", 1, "a~01234567~"}, {"a", "0123456789", 0, "a~01234567"}, {"a", "0123456789", -1, "a~01234567"}, {"a", "0123456789", 2, "a~01234567~~"},
		{"a/b", "012345678", 0, "a/b~01234567"}, {"a", "01234567", 0, "a~01234567"}, {"a", "0123456", 0, "a~0123456"}, {"a", "0", 3, "a~0~~~"},
		{"a", "", 0, "a~"}, {"", "", 0, "~"}, {"", "", 1, "~~"}, {"", "x", 0, "~x"}, {"~", "~~~~~~~~~", 1, "~~~~~~~~~~~"},
		{"a", "x", 99, "a~x" + marks[1:]}, {"a", "x", 100, "a~x" + marks}, {"a", "x", 101, "a~x" + marks},
		{"a", "x", math.MaxInt, "a~x" + marks}, {"a", "x", math.MinInt, "a~x"},
		{"no path\x00//", "\xff\x00 \n/é.456789", 1, "no path\x00//~\xff\x00 \n/é.~"}, // bytes, not runes
		{strings.Repeat("x", 5000), strings.Repeat("y", 5000), 1, strings.Repeat("x", 5000) + "~yyyyyyyy~"},
	} {
		if got := names.Copy(c.s, c.id, c.n); got != c.want {
			t.Errorf("Copy(%q, %q, %d) = %q, want %q", c.s, c.id, c.n, got, c.want)
		}
	}
}

func TestCopyOfEachNumber(t *testing.T) { // P4.4
	for n := -120; n <= 220; n++ {
		want := "s~id" + strings.Repeat("~", min(max(n, 0), 100))
		if got := names.Copy("s", "id", n); got != want {
			t.Errorf("Copy with %d more = %q", n, got)
		}
	}
}

// What is handed in has room behind it that must be neither written nor read.
func TestListsHandedInStay(t *testing.T) { // P4.5
	l := []string{"a", "b", "*c/", "..", ""}
	was := slices.Clone(l)
	if got, errno := names.Join(l[:2]); got != "a/b" || errno != api.OK {
		t.Errorf("Join looks behind the length: %q, %d", got, errno)
	}
	names.Join(l)
	names.Join(l[:0])
	if names.Ignored(l[:1], "b") || !names.Ignored(l[:2], "b") {
		t.Error("Ignored looks behind the length")
	}
	names.Ignored(l, "x/c/d")
	if !slices.Equal(l, was) {
		t.Errorf("%q was changed to %q", was, l)
	}
	joined, _ := names.Join(l[:2])
	l[0], l[1] = "x", "x"
	if joined != "a/b" || names.Ignored(l[:2], "a") {
		t.Errorf("what was handed in was kept: %q", joined)
	}
}

// spoil writes into a list that was handed out, and into its spare room.
func spoil(l []string) {
	whole := l[:cap(l)]
	for i := range whole {
		whole[i] = "spoilt"
	}
}

func TestListsHandedOutAreNew(t *testing.T) { // P4.5
	for name, call := range map[string]func(s string) []string{"Split": names.Split, "Parents": names.Parents} {
		for _, s := range []string{"a/b", "a/b/c", "a/b/c/d", "a/b/c/d/e", pathOf(8, 200)} {
			first, second := call(s), call(s)
			want := slices.Clone(second)
			spoil(first)
			if !slices.Equal(second, want) || !slices.Equal(call(s), want) {
				t.Errorf("%s(%q): what is written into an answer shows", name, s)
			}
			if len(want) == 0 {
				t.Errorf("%s(%q): none", name, s)
			}
		}
	}
}

func TestNamesJoinedAreThePath(t *testing.T) { // P4.6
	r := rand.New(rand.NewSource(11))
	paths := 0
	for range 5000 {
		s := randomPath(r)
		checkPath(t, s)
		l := names.Split(s)
		if len(l) == 0 {
			continue
		}
		paths++
		if joined, errno := names.Join(l); joined != s || errno != api.OK {
			t.Errorf("Join(Split(%q)) = %q, %d", s, joined, errno)
		}
	}
	if paths < 500 || paths > 4500 {
		t.Errorf("%d of 5000 texts are paths", paths)
	}
}

func TestPathIsUnderEachParent(t *testing.T) { // P4.2, P4.6
	r := rand.New(rand.NewSource(12))
	for range 2000 {
		s := randomPath(r)
		parents := names.Parents(s)
		if want := max(len(names.Split(s))-1, 0); len(parents) != want {
			t.Errorf("Parents(%q): %d, want %d", s, len(parents), want)
		}
		for i, dir := range parents {
			if !names.Path(dir) || !names.Under(dir, s) || i > 0 && !names.Under(parents[i-1], dir) {
				t.Errorf("Parents(%q) = %q", s, parents)
			}
		}
		for end := range len(s) + 1 {
			checkUnder(t, s[:end], s)
			if names.Under(s[:end], s) != slices.Contains(parents, s[:end]) {
				t.Errorf("Parents(%q) and Under(%q) differ", s, s[:end])
			}
		}
	}
}
