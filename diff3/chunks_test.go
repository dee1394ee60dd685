package diff3_test

import (
	"fmt"
	"slices"
	"strings"
	"testing"

	"marline/api"
	"marline/diff3"
)

func TestKinds(t *testing.T) {
	kinds := []int{diff3.Stable, diff3.OnlyA, diff3.OnlyB, diff3.Both, diff3.Conflict}
	if !slices.Equal(kinds, []int{1, 2, 3, 4, 5}) {
		t.Errorf("%v", kinds)
	}
}

func TestChunks(t *testing.T) { // P15.1
	for _, c := range []struct{ o, a, b, want string }{
		{"", "", "", "[]"},

		// All lines are kept.
		{"1", "1", "1", "[{1 [1] [1] [1]}]"},
		{"1 2 3", "1 2 3", "1 2 3", "[{1 [1 2 3] [1 2 3] [1 2 3]}]"},
		{"1 1 1", "1 1 1", "1 1 1", "[{1 [1 1 1] [1 1 1] [1 1 1]}]"},

		// There is no o.
		{"", "x", "", "[{2 [] [x] []}]"},
		{"", "", "y", "[{3 [] [] [y]}]"},
		{"", "x", "x", "[{4 [] [x] [x]}]"},
		{"", "x", "y", "[{5 [] [x] [y]}]"},
		{"", "x z", "x y", "[{5 [] [x z] [x y]}]"},

		// Nothing is left of a or b.
		{"1 2", "", "1 2", "[{2 [1 2] [] [1 2]}]"},
		{"1 2", "1 2", "", "[{3 [1 2] [1 2] []}]"},
		{"1 2", "", "", "[{4 [1 2] [] []}]"},
		{"1 2", "x", "", "[{5 [1 2] [x] []}]"},
		{"1 2", "1", "", "[{5 [1 2] [1] []}]"},

		// Changed: ahead, within, behind.
		{"1 2", "x 2", "1 2", "[{2 [1] [x] [1]} {1 [2] [2] [2]}]"},
		{"1 2", "1 2", "x 2", "[{3 [1] [1] [x]} {1 [2] [2] [2]}]"},
		{"1 2", "x 2", "x 2", "[{4 [1] [x] [x]} {1 [2] [2] [2]}]"},
		{"1 2", "x 2", "y 2", "[{5 [1] [x] [y]} {1 [2] [2] [2]}]"},
		{"1 2 3", "1 x 3", "1 2 3", "[{1 [1] [1] [1]} {2 [2] [x] [2]} {1 [3] [3] [3]}]"},
		{"1 2 3", "1 2 3", "1 x 3", "[{1 [1] [1] [1]} {3 [2] [2] [x]} {1 [3] [3] [3]}]"},
		{"1 2 3", "1 x 3", "1 x 3", "[{1 [1] [1] [1]} {4 [2] [x] [x]} {1 [3] [3] [3]}]"},
		{"1 2 3", "1 x 3", "1 y 3", "[{1 [1] [1] [1]} {5 [2] [x] [y]} {1 [3] [3] [3]}]"},
		{"1 2", "1 x", "1 2", "[{1 [1] [1] [1]} {2 [2] [x] [2]}]"},
		{"1 2", "1 2", "1 x", "[{1 [1] [1] [1]} {3 [2] [2] [x]}]"},
		{"1 2", "1 x", "1 x", "[{1 [1] [1] [1]} {4 [2] [x] [x]}]"},
		{"1 2", "1 x", "1 y", "[{1 [1] [1] [1]} {5 [2] [x] [y]}]"},

		// Lines come where none of o goes: the next line of o is kept, but stands elsewhere.
		{"1", "x 1", "1", "[{2 [] [x] []} {1 [1] [1] [1]}]"},
		{"1", "1", "x y 1", "[{3 [] [] [x y]} {1 [1] [1] [1]}]"},
		{"1", "x 1", "x 1", "[{4 [] [x] [x]} {1 [1] [1] [1]}]"},
		{"1", "x 1", "y 1", "[{5 [] [x] [y]} {1 [1] [1] [1]}]"},
		{"1", "x 1", "x x 1", "[{5 [] [x] [x x]} {1 [1] [1] [1]}]"},
		{"1 2", "1 x 2", "1 2", "[{1 [1] [1] [1]} {2 [] [x] []} {1 [2] [2] [2]}]"},
		{"1 2", "1 2", "1 x 2", "[{1 [1] [1] [1]} {3 [] [] [x]} {1 [2] [2] [2]}]"},
		{"1 2", "1 x 2", "1 y 2", "[{1 [1] [1] [1]} {5 [] [x] [y]} {1 [2] [2] [2]}]"},
		{"1", "1 x", "1 y", "[{1 [1] [1] [1]} {5 [] [x] [y]}]"},
		{"1", "x 1", "1 y", "[{2 [] [x] []} {1 [1] [1] [1]} {3 [] [] [y]}]"},
		{"1 2 3", "x 1 y 2 3 z", "1 2 w 3", "[{2 [] [x] []} {1 [1] [1] [1]} {2 [] [y] []} {1 [2] [2] [2]} {3 [] [] [w]} {1 [3] [3] [3]} {2 [] [z] []}]"},

		// Lines that only one match pairs are not kept.
		{"1 2", "1 x", "y 2", "[{5 [1 2] [1 x] [y 2]}]"},
		{"1 2", "2", "1", "[{5 [1 2] [2] [1]}]"},
		{"1 2", "2 1", "1 2", "[{2 [1] [] [1]} {1 [2] [2] [2]} {2 [] [1] []}]"},
		{"1 2 3", "1 3", "1 2", "[{1 [1] [1] [1]} {5 [2 3] [3] [2]}]"},
		{"1 2 3 4", "1 2 x 4", "1 y 3 4", "[{1 [1] [1] [1]} {5 [2 3] [2 x] [y 3]} {1 [4] [4] [4]}]"},
		{"1 2 3 4", "1 2 4", "1 3 4", "[{1 [1] [1] [1]} {5 [2 3] [2] [3]} {1 [4] [4] [4]}]"},
		{"1 2 3", "2 x 3", "1 x 3", "[{5 [1 2] [2 x] [1 x]} {1 [3] [3] [3]}]"},
		{"1 2 3 4 5", "2 4", "1 3 5", "[{5 [1 2 3 4 5] [2 4] [1 3 5]}]"},

		// Lines that a and b have alike, but o not, count for nothing.
		{"1", "x y z", "w y v", "[{5 [1] [x y z] [w y v]}]"},

		// Of lines that are the same the matches choose.
		{"1 1", "1", "1 1", "[{1 [1] [1] [1]} {2 [1] [] [1]}]"},
		{"1", "1 1", "1", "[{1 [1] [1] [1]} {2 [] [1] []}]"},
		{"1", "1 1", "1 1", "[{1 [1] [1] [1]} {4 [] [1] [1]}]"},
		{"1 1", "1", "1", "[{1 [1] [1] [1]} {4 [1] [] []}]"},
		{"1 2 1", "1", "2 1", "[{5 [1 2 1] [1] [2 1]}]"},

		// Changes that stand apart by one line.
		{"1 2 3", "x 2 3", "1 2 y", "[{2 [1] [x] [1]} {1 [2] [2] [2]} {3 [3] [3] [y]}]"},
		{"1 2 3", "1 x 3", "1 2 3 4", "[{1 [1] [1] [1]} {2 [2] [x] [2]} {1 [3] [3] [3]} {3 [] [] [4]}]"},
		{"1 2 3", "1 3", "1 3", "[{1 [1] [1] [1]} {4 [2] [] []} {1 [3] [3] [3]}]"},
		{"1 2 3 4 5", "a 2 b 4 c", "a 2 d 4 5", "[{4 [1] [a] [a]} {1 [2] [2] [2]} {5 [3] [b] [d]} {1 [4] [4] [4]} {2 [5] [c] [5]}]"},
	} {
		o, a, b := strings.Fields(c.o), strings.Fields(c.a), strings.Fields(c.b)
		l, errno := diff3.Chunks(o, a, b)
		if fmt.Sprint(l) != c.want || errno != api.OK {
			t.Errorf("Chunks(%s, %s, %s) = %v, %d, want %s", c.o, c.a, c.b, l, errno, c.want)
		}
		check(t, o, a, b)
	}
}

// Lines are any texts, held against each other line by line and byte by byte.
func TestChunksOfLinesThatLookAlike(t *testing.T) { // P15.1
	for _, c := range []struct {
		o, a, b []string
		want    []int
	}{
		{[]string{""}, nil, nil, []int{diff3.Both}},
		{nil, []string{""}, nil, []int{diff3.OnlyA}},
		{nil, nil, []string{"", ""}, []int{diff3.OnlyB}},
		{nil, []string{""}, []string{"", ""}, []int{diff3.Conflict}},
		{[]string{""}, []string{""}, []string{""}, []int{diff3.Stable}},
		{nil, []string{"ab"}, []string{"a", "b"}, []int{diff3.Conflict}},
		{[]string{"ab"}, []string{"a", "b"}, []string{"a", "b"}, []int{diff3.Both}},
		{[]string{"ab"}, []string{"a", "b"}, []string{"ab"}, []int{diff3.OnlyA}},
		{[]string{"ab"}, []string{"a", "b"}, []string{"", "ab"}, []int{diff3.Conflict}},
		{[]string{"a\nb\n"}, []string{"a\n", "b\n"}, []string{"a\nb\n"}, []int{diff3.OnlyA}},
		{[]string{"a\n"}, []string{"a"}, []string{"a\r\n"}, []int{diff3.Conflict}},
		{[]string{"a"}, []string{"A"}, []string{"a"}, []int{diff3.OnlyA}},
		{[]string{"\xff"}, []string{"\xff"}, []string{"\ufffd"}, []int{diff3.OnlyB}},
		{[]string{"é"}, []string{"e\u0301"}, []string{"e\u0301"}, []int{diff3.Both}},
		{[]string{"a\x00"}, []string{"a\x00"}, []string{"a\x00", "\x00"}, []int{diff3.Stable, diff3.OnlyB}},
	} {
		var kinds []int
		for _, chunk := range check(t, c.o, c.a, c.b) {
			kinds = append(kinds, chunk.Kind)
		}
		if !slices.Equal(kinds, c.want) {
			t.Errorf("Chunks(%q, %q, %q) = %v, want %v", c.o, c.a, c.b, kinds, c.want)
		}
	}
}

func TestChunksAtTheLimit(t *testing.T) { // P15.1
	most := numbered(0, api.MaxLines)
	turned := slices.Clone(most)
	slices.Reverse(turned)
	each := slices.Clone(most)
	for i := range each {
		if i%2 == 0 {
			each[i] = "x\n"
		}
	}
	for _, c := range []struct {
		name    string
		o, a, b []string
		want    int
	}{
		{"nothing differs", most, most, most, 1},
		{"all goes", most, nil, nil, 1},
		{"all comes", nil, most, most, 1},
		{"all comes in a", nil, most, nil, 1},
		{"all is another", numbered(1000, 200), most, numbered(2000, 200), 1},
		{"turned round", most, turned, most, 3},
		{"turned round by both", most, turned, turned, 3},
		{"each second line", most, each, most, 200},
		{"each second line by both", most, each, each, 200},
		{"a ahead, b behind", most[1:199], most[:199], most[1:], 3},
	} {
		if l := check(t, c.o, c.a, c.b); len(l) != c.want {
			t.Errorf("%s: %d chunks, want %d", c.name, len(l), c.want)
		}
	}
}

func TestChunksBeyondTheLimit(t *testing.T) { // P15.1
	most, over, far := numbered(0, api.MaxLines), numbered(0, api.MaxLines+1), numbered(0, 100000)
	for _, c := range []struct {
		name    string
		o, a, b []string
	}{
		{"o by one", over, nil, nil},
		{"a by one", nil, over, nil},
		{"b by one", nil, nil, over},
		{"all by one", over, over, over},
		{"o by one, the others have the most", over, most, most},
		{"a by one, the others have the most", most, over, most},
		{"b by one, the others have the most", most, most, over},
		{"o by far", far, most, most},
		{"a by far", most, far, most},
		{"b by far", most, most, far},
		{"all by far", far, far, far},
		{"a by one, b is o", most, over, most},
		{"a and b by one, alike", most, over, over},
		{"empty lines", nil, nil, make([]string, api.MaxLines+1)},
	} {
		if l, errno := diff3.Chunks(c.o, c.a, c.b); len(l) > 0 || errno != api.ErrLimit {
			t.Errorf("%s: %d chunks, %d", c.name, len(l), errno)
		}
	}
}
