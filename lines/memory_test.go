package lines_test

import (
	"bytes"
	"math/rand"
	"slices"
	"testing"

	"marline/api"
	"marline/lines"
)

// spoil writes another thing over a list and into its spare room.
func spoil[T any](l []T, other T) {
	whole := l[:cap(l)]
	for i := range whole {
		whole[i] = other
	}
}

// withRoom is l with room behind it, filled with what is to stay there.
func withRoom[T any](l, behind []T) []T {
	return slices.Concat(l, behind)[:len(l)]
}

func stays[T comparable](l, want, behind []T) bool {
	return slices.Equal(l[:len(l)+len(behind)], slices.Concat(want, behind))
}

// memoryTexts differ ahead, behind, between, in all or in nothing.
func memoryTexts() [][2][]string {
	l := [][2][]string{
		{nil, nil}, {nil, {"a"}}, {{"a"}, nil}, {{"a", "b"}, {"a", "b"}},
		{{"a", "b", "c"}, {"x", "a", "y", "b", "z", "c", "w"}},
		{{"a", "b", "c"}, {"x", "x", "x", "x", "x"}},
	}
	r := rand.New(rand.NewSource(7))
	for range 200 {
		a := someText(r, r.Intn(20), 5)
		l = append(l, [2][]string{a, edited(r, a, 5)})
	}
	return l
}

func TestWhatIsHandedInStays(t *testing.T) { // P14.4
	behind := []string{"a", "b", "x", "\n"}
	bytesBehind := []byte("\nabc\x00")
	for _, c := range memoryTexts() {
		a, b := withRoom(c[0], behind), withRoom(c[1], behind)
		edits, _ := lines.Diff(c[0], c[1])
		for i := range edits {
			edits[i].Ins = withRoom(edits[i].Ins, behind)
		}
		given := withRoom(edits, []lines.Edit{edit(0, 0, "x")})
		text := lines.Join(c[0])
		b0 := withRoom(text, bytesBehind)

		lines.Text(b0)
		lines.Split(b0)
		lines.Join(a)
		lines.Match(a, b)
		lines.Diff(a, b)
		lines.Patch(a, given)
		if !stays(a, c[0], behind) || !stays(b, c[1], behind) || !stays(b0, text, bytesBehind) {
			t.Fatalf("%q, %q were changed", c[0], c[1])
		}
		was, _ := lines.Diff(c[0], c[1])
		if !slices.EqualFunc(given[:len(given)+1], append(was, edit(0, 0, "x")), sameEdit) {
			t.Fatalf("%v were changed", was)
		}
		for i, e := range given {
			if !stays(e.Ins, was[i].Ins, behind) {
				t.Fatalf("%q were changed", was[i].Ins)
			}
		}
	}
}

// What is handed in may be written over behind the call, and ahead of the next one.
func TestWhatIsHandedInIsNotKept(t *testing.T) { // P14.4
	for _, c := range memoryTexts() {
		a, b := slices.Clone(c[0]), slices.Clone(c[1])
		text := lines.Join(a)
		split := lines.Split(text)
		joined := lines.Join(b)
		edits, _ := lines.Diff(a, b)
		given, _ := lines.Diff(a, b)
		patched, _ := lines.Patch(a, given)
		pairs, _ := lines.Match(a, b)

		spoil(text, 'z')
		spoil(a, "z")
		spoil(b, "z")
		for _, e := range given {
			spoil(e.Ins, "z")
		}
		spoil(given, edit(9, 9, "z"))
		if !slices.Equal(split, splitOf(lines.Join(c[0]))) || !bytes.Equal(joined, lines.Join(c[1])) {
			t.Fatalf("a write shows in %q or %q", split, joined)
		}
		want := pairsOf(c[0], c[1], longestByEnds)
		if !slices.Equal(pairs, want) || !slices.EqualFunc(edits, editsOf(c[0], c[1], want), sameEdit) {
			t.Fatalf("a write shows in %v or %v", pairs, edits)
		}
		if !slices.Equal(patched, c[1]) {
			t.Fatalf("a write shows in %q", patched)
		}
		check(t, a, b, longestByEnds)
	}
}

func TestAnswersAreNewMemory(t *testing.T) { // P14.4
	for _, c := range memoryTexts() {
		a, b := slices.Clone(c[0]), slices.Clone(c[1])
		text := lines.Join(a)
		edits, _ := lines.Diff(a, b)
		answers := func() ([]byte, []string, []lines.Pair, []lines.Edit, []string) {
			pairs, _ := lines.Match(a, b)
			diff, _ := lines.Diff(a, b)
			patched, _ := lines.Patch(a, edits)
			return lines.Join(a), lines.Split(text), pairs, diff, patched
		}
		joined, split, pairs, diff, patched := answers()
		joined2, split2, pairs2, diff2, patched2 := answers()
		spoil(joined, 'z')
		spoil(split, "z")
		spoil(pairs, lines.Pair{A: 9, B: 9})
		for _, e := range diff {
			spoil(e.Ins, "z")
		}
		spoil(diff, edit(9, 9, "z"))
		spoil(patched, "z")

		want := pairsOf(c[0], c[1], longestByEnds)
		if !slices.Equal(a, c[0]) || !slices.Equal(b, c[1]) || !bytes.Equal(text, lines.Join(c[0])) || !slices.EqualFunc(edits, editsOf(c[0], c[1], want), sameEdit) {
			t.Fatalf("a write into an answer shows in what was handed in: %q, %q", c[0], c[1])
		}
		if !bytes.Equal(joined2, text) || !slices.Equal(split2, splitOf(text)) || !slices.Equal(pairs2, want) || !slices.EqualFunc(diff2, edits, sameEdit) || !slices.Equal(patched2, b) {
			t.Fatalf("a write into an answer shows in another one: %q, %q", c[0], c[1])
		}
		check(t, a, b, longestByEnds)
	}
}

// Of one answer's lists none shows what is written into another one, spare room too.
func TestListsOfOneAnswerShareNothing(t *testing.T) { // P14.4
	for _, c := range memoryTexts() {
		edits, _ := lines.Diff(c[0], c[1])
		want := editsOf(c[0], c[1], pairsOf(c[0], c[1], longestByEnds))
		for i := range edits {
			spoil(edits[i].Ins, "z")
			for j := range edits {
				if j > i && !slices.Equal(edits[j].Ins, want[j].Ins) {
					t.Fatalf("a write into edit %d shows in edit %d of %q, %q", i, j, c[0], c[1])
				}
			}
		}
		edits, _ = lines.Diff(c[0], c[1])
		for i := len(edits) - 1; i >= 0; i-- {
			spoil(edits[i].Ins, "z")
			for j := range edits[:i] {
				if !slices.Equal(edits[j].Ins, want[j].Ins) {
					t.Fatalf("a write into edit %d shows in edit %d of %q, %q", i, j, c[0], c[1])
				}
			}
		}
	}
}

// What lies behind the length of a list is not read.
func TestWhatIsBehindIsNotRead(t *testing.T) { // P0.4
	b := withRoom([]byte("a\nb"), []byte("c\n\x00"))
	if l := lines.Split(b); !lines.Text(b) || !slices.Equal(l, []string{"a\n", "b"}) {
		t.Errorf("Split = %q, Text = %t", l, lines.Text(b))
	}
	if l := lines.Split(b[:0]); len(l) > 0 {
		t.Errorf("Split of nothing = %q", l)
	}
	one, other := withRoom([]string{"a", "b"}, []string{"c", "d"}), withRoom([]string{"a", "b"}, []string{"c", "d"})
	if joined := lines.Join(one); string(joined) != "ab" {
		t.Errorf("Join = %q", joined)
	}
	if pairs, _ := lines.Match(one, other); len(pairs) != 2 {
		t.Errorf("Match = %v", pairs)
	}
	if edits, _ := lines.Diff(one, other[:1]); !slices.EqualFunc(edits, []lines.Edit{edit(1, 1)}, sameEdit) {
		t.Errorf("Diff = %v", edits)
	}
	if got, errno := lines.Patch(one, []lines.Edit{edit(1, 2)}); len(got) > 0 || errno != api.ErrRange {
		t.Errorf("Patch = %q, %d", got, errno)
	}
	edits := []lines.Edit{{At: 1, Del: 1, Ins: withRoom([]string{"x"}, []string{"y"})}, edit(0, 0)}[:1]
	if got, errno := lines.Patch(one, edits); !slices.Equal(got, []string{"a", "x"}) || errno != api.OK {
		t.Errorf("Patch = %q, %d", got, errno)
	}
	over := numbered(0, api.MaxLines+1)[:api.MaxLines]
	if pairs, errno := lines.Match(over, over); len(pairs) != api.MaxLines || errno != api.OK {
		t.Errorf("Match at the limit = %d pairs, %d", len(pairs), errno)
	}
}
