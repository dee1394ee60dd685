package lines_test

import (
	"fmt"
	"math"
	"runtime"
	"slices"
	"strings"
	"testing"

	"marline/api"
	"marline/lines"
)

func edit(at, del int, ins ...string) lines.Edit {
	return lines.Edit{At: at, Del: del, Ins: ins}
}

func TestDiff(t *testing.T) { // P14.3
	for _, c := range []struct{ a, b, want string }{
		{"", "", "[]"},
		{"a b c", "a b c", "[]"},
		{"a b", "b", "[{0 1 []}]"},
		{"a b", "a", "[{1 1 []}]"},
		{"a b", "", "[{0 2 []}]"},
		{"", "a b", "[{0 0 [a b]}]"},
		{"a", "a b", "[{1 0 [b]}]"},
		{"a", "b a", "[{0 0 [b]}]"},
		{"a", "b", "[{0 1 [b]}]"},
		{"a b c", "x y z", "[{0 3 [x y z]}]"},
		{"a b c", "a x y c", "[{1 1 [x y]}]"},
		{"a b c d", "a d", "[{1 2 []}]"},
		{"a d", "a b c d", "[{1 0 [b c]}]"},
		{"a b c d", "b x d", "[{0 1 []} {2 1 [x]}]"},
		{"a b c", "x a y b z c w", "[{0 0 [x]} {1 0 [y]} {2 0 [z]} {3 0 [w]}]"},
		{"x a y b z c w", "a b c", "[{0 1 []} {2 1 []} {4 1 []} {6 1 []}]"},
		{"a b c", "b c a", "[{0 1 []} {3 0 [a]}]"},
		{"a b", "b a", "[{0 1 []} {2 0 [a]}]"},
		{"x", "a x b x", "[{0 0 [a]} {1 0 [b x]}]"},
		{"x a x", "x", "[{1 2 []}]"},
	} {
		edits, errno := lines.Diff(strings.Fields(c.a), strings.Fields(c.b))
		if fmt.Sprint(edits) != c.want || errno != api.OK {
			t.Errorf("Diff(%s, %s) = %v, %d, want %s", c.a, c.b, edits, errno, c.want)
		}
	}
}

func TestDiffAtTheLimit(t *testing.T) { // P14.3
	most := numbered(0, api.MaxLines)
	var each []lines.Edit
	var lasting []string
	for i, line := range most {
		if i%2 == 0 {
			each = append(each, edit(i, 1, "x", "y"))
			lasting = append(lasting, "x", "y")
		} else {
			lasting = append(lasting, line)
		}
	}
	for _, c := range []struct {
		name string
		a, b []string
		want []lines.Edit
	}{
		{"nothing differs", most, most, nil},
		{"all goes", most, nil, []lines.Edit{edit(0, 200)}},
		{"all comes", nil, most, []lines.Edit{edit(0, 0, most...)}},
		{"all is another", most, numbered(1000, 200), []lines.Edit{edit(0, 200, numbered(1000, 200)...)}},
		{"each second one of most of the lines", most[:132], lasting[:198], each[:66]},
		{"the last one comes", most[:199], most, []lines.Edit{edit(199, 0, "199\n")}},
		{"the last one goes", most, most[:199], []lines.Edit{edit(199, 1)}},
	} {
		edits, errno := lines.Diff(c.a, c.b)
		if errno != api.OK || !slices.EqualFunc(edits, c.want, sameEdit) {
			t.Errorf("%s: %v, %d, want %v", c.name, edits, errno, c.want)
		}
	}
}

func TestPatch(t *testing.T) { // P14.3
	a := []string{"a", "b", "c"}
	for _, c := range []struct {
		name string
		l    []lines.Edit
		want string
	}{
		{"nothing", nil, "a b c"},
		{"edits that do nothing", []lines.Edit{edit(0, 0), edit(0, 0), edit(2, 0), edit(3, 0), edit(3, 0)}, "a b c"},
		{"ahead", []lines.Edit{edit(0, 0, "x")}, "x a b c"},
		{"behind", []lines.Edit{edit(3, 0, "x")}, "a b c x"},
		{"between", []lines.Edit{edit(1, 0, "x", "y")}, "a x y b c"},
		{"one goes", []lines.Edit{edit(1, 1)}, "a c"},
		{"the last one goes", []lines.Edit{edit(2, 1)}, "a b"},
		{"all go", []lines.Edit{edit(0, 3)}, ""},
		{"all go one by one", []lines.Edit{edit(0, 1), edit(1, 1), edit(2, 1)}, ""},
		{"all go, then one comes", []lines.Edit{edit(0, 3), edit(3, 0, "x")}, "x"},
		{"each is another", []lines.Edit{edit(0, 1, "x"), edit(1, 1, "y"), edit(2, 1, "z")}, "x y z"},
		{"several at one place", []lines.Edit{edit(1, 0, "x"), edit(1, 0, "y"), edit(1, 1, "z")}, "a x y z c"},
		{"one at the end of the one ahead", []lines.Edit{edit(0, 2, "x"), edit(2, 0, "y")}, "x y c"},
		{"the line that is there comes again", []lines.Edit{edit(1, 1, "b")}, "a b c"},
	} {
		got, errno := lines.Patch(a, c.l)
		if strings.Join(got, " ") != c.want || errno != api.OK {
			t.Errorf("%s: %q, %d, want %s", c.name, got, errno, c.want)
		}
	}
	for _, c := range []struct {
		name string
		l    []lines.Edit
		want string
	}{{"nothing", nil, ""}, {"nothing to do", []lines.Edit{edit(0, 0)}, ""}, {"lines come", []lines.Edit{edit(0, 0, "x"), edit(0, 0, "y")}, "x y"}} {
		got, errno := lines.Patch(nil, c.l)
		if strings.Join(got, " ") != c.want || errno != api.OK {
			t.Errorf("of no lines: %s: %q, %d, want %s", c.name, got, errno, c.want)
		}
	}
}

func TestPatchOfWrongEdits(t *testing.T) { // P14.3
	a := []string{"a", "b", "c"}
	for _, c := range []struct {
		name string
		l    []lines.Edit
	}{
		{"at -1", []lines.Edit{edit(-1, 0)}},
		{"at -1, up to the beginning", []lines.Edit{edit(-1, 1)}},
		{"far ahead", []lines.Edit{edit(math.MinInt, 0)}},
		{"far ahead, very much", []lines.Edit{edit(math.MinInt, math.MaxInt)}},
		{"behind the end", []lines.Edit{edit(4, 0)}},
		{"behind the end, back again", []lines.Edit{edit(4, -1)}},
		{"far behind", []lines.Edit{edit(math.MaxInt, 0)}},
		{"far behind, very much", []lines.Edit{edit(math.MaxInt, math.MaxInt)}},
		{"far behind, back again", []lines.Edit{edit(math.MaxInt, -math.MaxInt)}},
		{"far behind, far back", []lines.Edit{edit(math.MaxInt, math.MinInt)}},
		{"over the end", []lines.Edit{edit(3, 1)}},
		{"over the end by one", []lines.Edit{edit(1, 3)}},
		{"more than there is", []lines.Edit{edit(0, 4)}},
		{"very much", []lines.Edit{edit(0, math.MaxInt)}},
		{"very much from 1 on", []lines.Edit{edit(1, math.MaxInt)}},
		{"very much from the end on", []lines.Edit{edit(3, math.MaxInt-2)}},
		{"less than nothing", []lines.Edit{edit(0, -1)}},
		{"less than nothing within", []lines.Edit{edit(2, -1)}},
		{"far less than nothing", []lines.Edit{edit(3, math.MinInt)}},
		{"within the one ahead", []lines.Edit{edit(0, 2), edit(1, 1)}},
		{"within the one ahead, nothing goes", []lines.Edit{edit(0, 2), edit(1, 0)}},
		{"ahead of the one ahead", []lines.Edit{edit(2, 0), edit(1, 0)}},
		{"ahead of the one ahead, up to it", []lines.Edit{edit(1, 1), edit(0, 1)}},
		{"the same one twice", []lines.Edit{edit(1, 1), edit(1, 1)}},
		{"the last one is wrong", []lines.Edit{edit(0, 1, "x"), edit(1, 1, "y"), edit(2, 2, "z")}},
		{"the first one is wrong", []lines.Edit{edit(-1, 0, "x"), edit(1, 1, "y")}},
		{"back into the one but one ahead", []lines.Edit{edit(0, 1), edit(2, 0), edit(1, 0)}},
	} {
		if got, errno := lines.Patch(a, c.l); len(got) > 0 || errno != api.ErrRange {
			t.Errorf("%s: %q, %d", c.name, got, errno)
		}
	}
	for _, e := range []lines.Edit{edit(1, 0), edit(0, 1), edit(-1, 0), edit(-1, 1), edit(0, -1), edit(1, -1)} {
		if got, errno := lines.Patch(nil, []lines.Edit{e}); len(got) > 0 || errno != api.ErrRange {
			t.Errorf("of no lines: %v: %q, %d", e, got, errno)
		}
	}
}

// Patch has no bound of lines, of a or of what comes.
func TestPatchOfManyLines(t *testing.T) { // P14.3
	a := numbered(0, 100000)
	ins := numbered(200000, 1000)
	got, errno := lines.Patch(a, []lines.Edit{edit(1, 99998, ins...), edit(100000, 0, ins...)})
	want := slices.Concat(a[:1], ins, a[99999:], ins)
	if errno != api.OK || !slices.Equal(got, want) {
		t.Errorf("%d lines, %d", len(got), errno)
	}
}

// Edits that share their lines tell much in little; where one of them is wrong,
// nothing is gathered for the others.
func TestPatchOfVeryMuchThatIsWrong(t *testing.T) { // P0.1
	l := slices.Repeat([]lines.Edit{edit(0, 0, same("x", 1<<11)...)}, 1<<11)
	l = append(l, edit(0, 1))
	var before, after runtime.MemStats
	runtime.ReadMemStats(&before)
	got, errno := lines.Patch(nil, l)
	runtime.ReadMemStats(&after)
	if len(got) > 0 || errno != api.ErrRange {
		t.Errorf("%d lines, %d", len(got), errno)
	}
	if taken := after.TotalAlloc - before.TotalAlloc; taken > 1<<20 {
		t.Errorf("%d bytes were taken", taken)
	}
}
