package names_test

import (
	"math/rand"
	"regexp"
	"slices"
	"strings"
	"testing"

	"marline/names"
)

var patternForm = regexp.MustCompile(`^([^*]+|\*[^*]+|[^*]+\*)$`)

// isPattern says P4.3's words of a pattern in another way.
func isPattern(p string) bool {
	s := strings.TrimSuffix(p, "/")
	return isName(s) && patternForm.MatchString(s)
}

// isTaken tells whether the pattern p takes a name of the path l.
func isTaken(p string, l []string) bool {
	s := strings.TrimSuffix(p, "/")
	if s != p {
		l = l[:len(l)-1]
	}
	before, behind, star := strings.Cut(s, "*")
	return slices.ContainsFunc(l, func(name string) bool {
		if star {
			return len(name) >= len(before)+len(behind) && strings.HasPrefix(name, before) && strings.HasSuffix(name, behind)
		}
		return name == s
	})
}

func isIgnored(patterns []string, s string) bool {
	l := pathNames(s)
	return l != nil && slices.ContainsFunc(patterns, func(p string) bool { return isPattern(p) && isTaken(p, l) })
}

func TestPatternOfAllShortTexts(t *testing.T) { // P4.3
	for _, p := range allTexts("a*/. ", 6) {
		if want := isPattern(p); names.Pattern(p) != want {
			t.Errorf("Pattern(%q) = %v", p, !want)
		}
	}
}

func TestPattern(t *testing.T) { // P4.3
	long := strings.Repeat("x", 63)
	for p, want := range map[string]bool{
		"a": true, "*a": true, "a*": true, "a/": true, "*a/": true, "a*/": true, ".o": true, "*.o": true, "*.": true, ".*": true, "*..": true, "..*": true, "...": true,
		"": false, "/": false, "//": false, "*": false, "*/": false, "**": false, "***": false, "**/": false, "*a*": false, "a*b": false, "**a": false, "a**": false,
		"a*b*": false, "*a*b": false, "*a*/": false, "a/b": false, "a//": false, "/a": false, "/a/": false, "/*": false, "a/*": false, "*/a": false, ".": false, "..": false,
		"./": false, "../": false, "a b": false, " a": false, "a\n": false, "a/ ": false, "\x7f": false, "é*": false, "!": true, "~*": true,
		long + "x": true, long + "xx": false, "*" + long: true, long + "*": true, "*x" + long: false, long + "x*": false, long + "x/": true, "*" + long + "/": true,
		long + "xx/": false, long + "*/": true, long + "x*/": false, strings.Repeat("x", 1<<20): false, strings.Repeat("*", 1<<20): false,
	} {
		if names.Pattern(p) != want {
			t.Errorf("Pattern(%q) = %v", p, !want)
		}
	}
}

func TestPatternOfEachByte(t *testing.T) { // P4.3
	for c := range 256 {
		p := "a" + string([]byte{byte(c)}) + "a"
		if want := c >= 33 && c <= 126 && c != '/' && c != '*'; names.Pattern(p) != want {
			t.Errorf("Pattern(%q) = %v", p, !want)
		}
	}
}

func TestIgnored(t *testing.T) { // P4.3
	for _, c := range []struct {
		p, s string
		want bool
	}{
		{"a", "a", true}, {"a", "a/b", true}, {"a", "b/a", true}, {"a", "b/a/c", true}, {"a", "b", false}, {"a", "aa", false}, {"a", "A", false}, {"a", "ba/ab", false},
		{"*.o", "x/y.o", true}, {"*.o", "x.o/y", true}, {"*.o", ".o", true}, {"*.o", "x.oo", false}, {"*.o", "o", false}, {"*.o", "x.o.p", false}, {"*.o", "*.o", true},
		{"t*", "t", true}, {"t*", "tx", true}, {"t*", "a/tx/b", true}, {"t*", "xt", false}, {"tt*", "t", false}, {"t*", "t*", true}, {"*tt", "t", false},
		{"tmp/", "tmp", false}, {"tmp/", "tmp/a", true}, {"tmp/", "a/tmp", false}, {"tmp/", "a/tmp/b", true}, {"tmp/", "tmp/tmp", true}, {"tmp/", "tmpx/a", false},
		{"t*/", "t/a", true}, {"t*/", "tx", false}, {"*t/", "xt/a", true}, {"*t/", "a/xt", false}, {"*a", "a/x", true}, {"a*/", "x/ab", false},
		{".*", ".", false}, {".*", "..", false}, {".*", "...", true}, {".*", ".a", true}, {"*.", "a.", true}, {"..*", ".a", false},
		{"*", "a", false}, {"**", "a", false}, {"*/", "a/b", false}, {"", "a", false}, {"/", "a/b", false}, {"a/b", "a/b", false}, {"a//", "a/b", false}, {"/a", "a", false},
		{"x*z", "xyz", false}, {"*a*", "a", false}, {"*a*", "*a*", false}, {".", "a", false}, {"a b", "a b", false},
		{"a", "", false}, {"a", "/", false}, {"a", "a/", false}, {"a", "/a", false}, {"a", "a//b", false}, {"a", "a/..", false}, {"a", "a/ ", false},
		{"x", pathOf(8, 15), true}, {"x/", pathOf(8, 15), true}, {"x", pathOf(9, 17), false}, {"x*", pathOf(8, 200), true}, {"x*", pathOf(8, 201), false},
	} {
		for _, patterns := range [][]string{{c.p}, {c.p, "none"}, {"none", c.p}, {"", "*", c.p, "a//", "**"}, {c.p, c.p}} {
			if got := names.Ignored(patterns, c.s); got != c.want {
				t.Errorf("Ignored(%q, %q) = %v", patterns, c.s, got)
			}
		}
	}
}

func TestIgnoredByNoPattern(t *testing.T) { // P4.3
	for _, patterns := range [][]string{nil, {}, {""}, {"*"}, {"*", "**", "a*b", "/", "a/a", " "}} {
		for _, s := range []string{"a", "a/a", "a/b", "*", "", "/"} {
			if names.Ignored(patterns, s) {
				t.Errorf("Ignored(%q, %q) = true", patterns, s)
			}
		}
	}
}

func TestIgnoredOfAllShortTexts(t *testing.T) { // P4.3
	for _, p := range allTexts("ab*/", 4) {
		for _, s := range allTexts("ab/", 5) {
			want := isIgnored([]string{p}, s)
			if got := names.Ignored([]string{p}, s); got != want {
				t.Errorf("Ignored(%q, %q) = %v", p, s, got)
			}
		}
	}
}

func randomPattern(r *rand.Rand) string {
	p := randomName(r, 2)
	switch r.Intn(4) {
	case 0:
		p = "*" + p
	case 1:
		p += "*"
	}
	if r.Intn(3) == 0 {
		p += "/"
	}
	return p
}

func TestMorePatternsIgnoreNoLess(t *testing.T) { // P4.3, P4.6
	r := rand.New(rand.NewSource(13))
	ignored := 0
	for range 1000 {
		s := randomPath(r)
		var patterns []string
		was := false
		for range 6 {
			patterns = slices.Insert(patterns, r.Intn(len(patterns)+1), randomPattern(r))
			is := names.Ignored(patterns, s)
			if is != isIgnored(patterns, s) || was && !is {
				t.Fatalf("Ignored(%q, %q) = %v, with one less %v", patterns, s, is, was)
			}
			was = is
		}
		if was {
			ignored++
		}
	}
	if ignored < 100 || ignored > 900 {
		t.Errorf("%d of 1000 paths are ignored", ignored)
	}
}
