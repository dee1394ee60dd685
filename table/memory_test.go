package table_test

import (
	"bytes"
	"slices"
	"testing"

	"marline/api"
	"marline/reach"
	"marline/table"
)

// spoil writes another thing over a list and into its spare room.
func spoil[T any](l []T, other T) {
	whole := l[:cap(l)]
	for i := range whole {
		whole[i] = other
	}
}

// withRoom is l with room behind it, filled with what is to stay there.
func withRoom[T any](l, behind []T) []T {
	return slices.Concat(l, behind)[:len(l)]
}

func stays[T comparable](l, want, behind []T) bool {
	return slices.Equal(l[:len(l)+len(behind)], slices.Concat(want, behind))
}

func someTables() [][]api.Row {
	return [][]api.Row{nil, rows("a"), rows("a/b"), rows("a", "a-b", "a.b/c", "b/c/d", "b/c/e", "b/d", "c/c/d"), {row("a/f", 1), {Path: "b/f", Entry: row("a/f", 1).Entry}}, rows("b", "a", "a"), numbered(256)}
}

type answer struct {
	may, same bool
	paths     []string
	top       string
	trees     [][]byte
	errno     api.Errno
	got       api.Entry
	with      [3][]api.Row
}

func asked(l []api.Row) answer {
	var a answer
	a.may, a.same = table.May(l), table.Same(l, slices.Clone(l))
	a.paths = table.Paths(l, l)
	a.top, a.trees, a.errno = table.Build(l)
	a.got = table.Get(l, "behind")
	a.with[0], a.with[1], a.with[2] = table.Set(l, "a/x", row("y", 1).Entry), table.Set(l, "a", api.Entry{}), table.Set(l, "none", api.Entry{})
	return a
}

func sameAnswer(a, b answer) bool {
	return a.may == b.may && a.same == b.same && a.top == b.top && a.errno == b.errno && a.got == b.got && slices.Equal(a.paths, b.paths) &&
		slices.EqualFunc(a.trees, b.trees, bytes.Equal) && slices.EqualFunc(a.with[:], b.with[:], slices.Equal)
}

// What is handed in stays, what is behind it too, and that is not read.
func TestRowsHandedInStay(t *testing.T) { // P16.4
	behind := []api.Row{row("behind", 1), row("a", 9), row("a", 1), {}}
	for _, l := range someTables() {
		want := asked(l)
		given := withRoom(l, behind)
		if got := asked(given); !sameAnswer(got, want) || !want.same {
			t.Errorf("of %.200v: %.200v, want %.200v", l, got, want)
		}
		if !stays(given, l, behind) {
			t.Errorf("%.200v is now %.200v", l, given[:cap(given)])
		}
	}
	tables := withRoom([][]api.Row{rows("a"), rows("b")}, [][]api.Row{rows("c")})
	if got := table.Paths(tables...); !slices.Equal(got, []string{"a", "b"}) || len(tables[:3][2]) != 1 {
		t.Errorf("Paths = %q", got)
	}
}

func TestRowsHandedInAreNotKept(t *testing.T) { // P16.4
	for _, l := range someTables() {
		want := asked(l)
		given := slices.Clone(l)
		got := asked(given)
		spoil(given, row("spoiled", 1))
		if !sameAnswer(got, want) {
			t.Errorf("of %.200v: a write into what was handed in shows in %.200v", l, got)
		}
		if !sameAnswer(asked(l), want) {
			t.Errorf("of %.200v: another answer the second time", l)
		}
	}
}

func TestAnswersAreNewMemory(t *testing.T) { // P16.4
	for _, l := range someTables() {
		given := slices.Clone(l)
		want := asked(given)
		spoiled := asked(given)
		spoil(spoiled.paths, "spoiled")
		for i := range spoiled.with {
			spoil(spoiled.with[i], row("spoiled", 1))
		}
		for _, b := range spoiled.trees {
			spoil(b, 'z')
		}
		spoil(spoiled.trees, nil)
		if !slices.Equal(given, l) || !sameAnswer(asked(given), want) || !sameAnswer(asked(l), want) {
			t.Errorf("of %.200v: a write into an answer shows", l)
		}
	}
}

// A write into the bytes of one tree, and behind them, shows in no other one.
func TestTreesShareNothing(t *testing.T) { // P16.4
	for _, l := range someTables() {
		_, want, _ := table.Build(l)
		for i := range want {
			_, trees, _ := table.Build(l)
			spoil(trees[i], 'z')
			for j := range trees {
				if j != i && !bytes.Equal(trees[j], want[j]) {
					t.Errorf("of %.200v: a write into tree %d shows in tree %d", l, i, j)
				}
			}
		}
	}
}

// What a source tells is neither changed nor kept: it may use one memory for all.
func TestWhatIsToldStays(t *testing.T) { // P16.4
	for _, l := range someTables() {
		top, trees, errno := table.Build(l)
		if errno != api.OK {
			continue
		}
		s, whole := shelfOf(trees), shelf{}
		for id, b := range s {
			whole[id] = slices.Concat(b, []byte("behind it"))
		}
		was := shelf{}
		for id, b := range whole {
			was[id] = bytes.Clone(b)
		}
		room := make([]byte, 0, 50000)
		for what, src := range map[string]reach.Source{
			"with bytes behind": func(id string) ([]byte, bool) { b, ok := whole[id]; return b[:max(0, len(b)-9)], ok },
			"by one memory":     func(id string) ([]byte, bool) { room = append(room[:0], s[id]...); return room, s[id] != nil },
		} {
			first, errno := table.Flatten(src, top)
			second, again := table.Flatten(src, top)
			if errno != api.OK || again != api.OK || !slices.Equal(first, l) || !slices.Equal(second, l) {
				t.Errorf("told %s: Flatten = %.200v, %d, %.200v, %d, want %.200v", what, first, errno, second, again, l)
			}
			spoil(room[:cap(room)], 'z')
			spoil(first, row("spoiled", 1))
			if third, _ := table.Flatten(src, top); !slices.Equal(second, l) || !slices.Equal(third, l) {
				t.Errorf("told %s: a write shows in %.200v or in %.200v, want %.200v", what, second, third, l)
			}
		}
		for id, b := range whole {
			if !bytes.Equal(b, was[id]) {
				t.Errorf("what was told is now %x", b)
			}
		}
	}
}
