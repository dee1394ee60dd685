package lines_test

import (
	"fmt"
	"slices"
	"strconv"
	"strings"
	"testing"

	"marline/api"
	"marline/lines"
)

// numbered is so many lines, all unlike, from a number on.
func numbered(from, size int) []string {
	var l []string
	for i := range size {
		l = append(l, strconv.Itoa(from+i)+"\n")
	}
	return l
}

func same(line string, size int) []string { return slices.Repeat([]string{line}, size) }

func reversed(l []string) []string {
	l = slices.Clone(l)
	slices.Reverse(l)
	return l
}

func TestMatch(t *testing.T) { // P14.2
	for _, c := range []struct{ a, b, want string }{
		{"", "", "[]"},
		{"a", "", "[]"},
		{"", "a", "[]"},
		{"a", "b", "[]"},
		{"a", "a", "[{0 0}]"},
		{"a b c", "b c a", "[{1 0} {2 1}]"},
		{"a b", "b", "[{1 0}]"},
		{"b", "a b", "[{0 1}]"},
		{"a b c", "a b c", "[{0 0} {1 1} {2 2}]"},
		{"a b c", "a c", "[{0 0} {2 1}]"},
		{"a c", "a b c", "[{0 0} {1 2}]"},
		{"a x c", "a y c", "[{0 0} {2 2}]"},

		// Where both ways are as good, it goes on in a.
		{"a b", "b a", "[{1 0}]"},
		{"b a", "a b", "[{1 0}]"},
		{"a b c", "c b a", "[{2 0}]"},
		{"a b c d", "c d a b", "[{2 0} {3 1}]"},
		{"c d a b", "a b c d", "[{2 0} {3 1}]"},
		{"a b x", "b a x", "[{1 0} {2 2}]"},

		// Where lines are the same, they are a pair, the first ones that can be.
		{"a a", "a", "[{0 0}]"},
		{"a", "a a", "[{0 0}]"},
		{"x a x", "x", "[{0 0}]"},
		{"a a b", "a b", "[{0 0} {2 1}]"},
		{"a b", "a a b", "[{0 0} {1 2}]"},
		{"a b a b", "a b", "[{0 0} {1 1}]"},
		{"b a b a", "a b a b", "[{1 0} {2 1} {3 2}]"},

		// The longer way is gone, wherever it lies.
		{"a b c", "x b c a", "[{1 1} {2 2}]"},
		{"a x b c", "b c a", "[{2 0} {3 1}]"},
		{"b c a", "a x b c", "[{0 2} {1 3}]"},
		{"a b c a b b a", "c b a b a c", "[{2 0} {4 1} {5 3} {6 4}]"},
	} {
		pairs, errno := lines.Match(strings.Fields(c.a), strings.Fields(c.b))
		if fmt.Sprint(pairs) != c.want || errno != api.OK {
			t.Errorf("Match(%s, %s) = %v, %d, want %s", c.a, c.b, pairs, errno, c.want)
		}
	}
}

// Lines are compared whole, byte by byte.
func TestMatchOfLinesThatLookAlike(t *testing.T) { // P14.2
	a := []string{"a\n", "", "A", "\xff", "é", "x\ny", " b", "\x00"}
	for _, b := range [][]string{
		{"a"}, {"a\r\n"}, {"a\n\n"}, {" "}, {"\xfe"}, {"\ufffd"}, {"e\u0301"}, {"x\n", "y"}, {"b"}, {"b "}, {"\x00\x00"},
	} {
		if pairs, errno := lines.Match(a, b); len(pairs) > 0 || errno != api.OK {
			t.Errorf("Match(%q, %q) = %v, %d", a, b, pairs, errno)
		}
	}
	for i, line := range a {
		pairs, errno := lines.Match(a, []string{"other", line})
		if !slices.Equal(pairs, []lines.Pair{{A: i, B: 1}}) || errno != api.OK {
			t.Errorf("Match(%q, %q) = %v, %d", a, line, pairs, errno)
		}
	}
}

func TestMatchAtTheLimit(t *testing.T) { // P14.2
	most := numbered(0, api.MaxLines)
	for _, c := range []struct {
		name string
		a, b []string
		want int
	}{
		{"the same lines", most, most, 200},
		{"lines that are all one", same("a", 200), same("a", 200), 200},
		{"none is the same", most, numbered(1000, 200), 0},
		{"turned round", most, reversed(most), 1},
		{"moved by one", most, numbered(1, 200), 199},
		{"moved by half", most, numbered(100, 200), 100},
		{"nothing in b", most, nil, 0},
		{"nothing in a", nil, most, 0},
		{"one line in b", most, []string{"199\n"}, 1},
		{"one line in a", []string{"199\n"}, most, 1},
	} {
		pairs, errno := lines.Match(c.a, c.b)
		if len(pairs) != c.want || errno != api.OK {
			t.Errorf("%s: %d pairs, %d", c.name, len(pairs), errno)
		}
		if want := pairsOf(c.a, c.b, longestByEnds); !slices.Equal(pairs, want) {
			t.Errorf("%s: %v, want %v", c.name, pairs, want)
		}
	}
	pairs, _ := lines.Match(most, reversed(most))
	if !slices.Equal(pairs, []lines.Pair{{A: 199, B: 0}}) {
		t.Errorf("turned round: %v", pairs)
	}
}

func TestBeyondTheLimit(t *testing.T) { // P14.2, P14.3
	most, over := numbered(0, api.MaxLines), numbered(0, api.MaxLines+1)
	for _, c := range []struct {
		name string
		a, b []string
	}{
		{"a by one", over, nil},
		{"b by one", nil, over},
		{"both by one", over, over},
		{"a by one, b has the most", over, most},
		{"b by one, a has the most", most, over},
		{"empty lines", same("", 201), nil},
		{"a by far", numbered(0, 100000), most},
		{"b by far", most, numbered(0, 100000)},
		{"both by far", numbered(0, 100000), numbered(0, 100000)},
	} {
		if pairs, errno := lines.Match(c.a, c.b); len(pairs) > 0 || errno != api.ErrLimit {
			t.Errorf("%s: Match = %d pairs, %d", c.name, len(pairs), errno)
		}
		if edits, errno := lines.Diff(c.a, c.b); len(edits) > 0 || errno != api.ErrLimit {
			t.Errorf("%s: Diff = %d edits, %d", c.name, len(edits), errno)
		}
	}
}

// The bytes of a line have no bound.
func TestMatchOfLongLines(t *testing.T) { // P14.2
	long := strings.Repeat("x", 100000)
	a := []string{long + "a", long, long + "b"}
	b := []string{long + "c", long + "b", long + "a", long}
	pairs, errno := lines.Match(a, b)
	if !slices.Equal(pairs, []lines.Pair{{A: 0, B: 2}, {A: 1, B: 3}}) || errno != api.OK {
		t.Errorf("%v, %d", pairs, errno)
	}
}
