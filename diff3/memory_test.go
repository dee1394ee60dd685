package diff3_test

import (
	"bytes"
	"math/rand"
	"slices"
	"strings"
	"testing"

	"marline/api"
	"marline/diff3"
)

// spoil writes another thing over a list and into its spare room.
func spoil[T any](l []T, other T) {
	whole := l[:cap(l)]
	for i := range whole {
		whole[i] = other
	}
}

// withRoom is l with room behind it, filled with what is to stay there.
func withRoom[T any](l, behind []T) []T {
	return slices.Concat(l, behind)[:len(l)]
}

func stays[T comparable](l, want, behind []T) bool {
	return slices.Equal(l[:len(l)+len(behind)], slices.Concat(want, behind))
}

// memoryTexts have each kind of chunk, or are the same, or have nothing.
func memoryTexts() [][3][]string {
	l := [][3][]string{
		{nil, nil, nil}, {nil, {"a\n"}, nil}, {{"a\n"}, nil, nil}, {{"a\n"}, {"a\n"}, {"a\n"}},
		{{"1\n", "2\n", "3\n"}, {"1\n", "x\n", "3\n"}, {"1\n", "2\n", "3\n", "4\n"}},
		{{"1\n", "2\n", "3\n"}, {"1\n", "x\n", "3\n"}, {"1\n", "y\n", "3\n"}},
		{{"1\n", "2\n", "3\n"}, {"1\n", "x\n", "3\n"}, {"1\n", "x\n", "3\n"}},
	}
	r := rand.New(rand.NewSource(4))
	for range 200 {
		o := someText(r, r.Intn(20), 40)
		l = append(l, [3][]string{o, edited(r, o, r.Intn(4), 40), edited(r, o, r.Intn(4), 40)})
	}
	return l
}

func joined(l []string) []byte { return []byte(strings.Join(l, "")) }

func TestWhatIsHandedInStays(t *testing.T) { // P15.3
	behind := []string{"1\n", "2\n", "x\n"}
	bytesBehind := []byte("\nabc\x00")
	for _, c := range memoryTexts() {
		o, a, b := withRoom(c[0], behind), withRoom(c[1], behind), withRoom(c[2], behind)
		l, errno := diff3.Chunks(o, a, b)
		if errno != api.OK || !slices.EqualFunc(l, chunksOf(c[0], c[1], c[2]), sameChunk) {
			t.Fatalf("Chunks(%q) = %v, %d", c, l, errno)
		}
		if !stays(o, c[0], behind) || !stays(a, c[1], behind) || !stays(b, c[2], behind) {
			t.Fatalf("Chunks changed %q", c)
		}
		texts := [3][]byte{joined(c[0]), joined(c[1]), joined(c[2])}
		p, q, s := withRoom(texts[0], bytesBehind), withRoom(texts[1], bytesBehind), withRoom(texts[2], bytesBehind)
		want, wanted := mergedOf(l)
		if merged, ok, errno := diff3.Merge(p, q, s); string(merged) != want || ok != wanted || errno != api.OK {
			t.Fatalf("Merge of %q = %q, %t, %d, want %q", c, merged, ok, errno, want)
		}
		if !stays(p, texts[0], bytesBehind) || !stays(q, texts[1], bytesBehind) || !stays(s, texts[2], bytesBehind) {
			t.Fatalf("Merge changed %q", c)
		}
	}
}

// What is handed in may be written over behind the call, and ahead of the next one.
func TestWhatIsHandedInIsNotKept(t *testing.T) { // P15.3
	for _, c := range memoryTexts() {
		want := chunksOf(c[0], c[1], c[2])
		text, _ := mergedOf(want)
		o, a, b := slices.Clone(c[0]), slices.Clone(c[1]), slices.Clone(c[2])
		p, q, s := joined(o), joined(a), joined(b)
		l, _ := diff3.Chunks(o, a, b)
		merged, _, _ := diff3.Merge(p, q, s)
		for _, list := range [][]string{o, a, b} {
			spoil(list, "z")
		}
		for _, list := range [][]byte{p, q, s} {
			spoil(list, 'z')
		}
		if !slices.EqualFunc(l, want, sameChunk) || string(merged) != text {
			t.Fatalf("a write shows in %v or %q", l, merged)
		}
		check(t, o, a, b)
	}
}

func TestAnswersAreNewMemory(t *testing.T) { // P15.3
	for _, c := range memoryTexts() {
		want := chunksOf(c[0], c[1], c[2])
		o, a, b := slices.Clone(c[0]), slices.Clone(c[1]), slices.Clone(c[2])
		p, q, s := joined(o), joined(a), joined(b)
		l, _ := diff3.Chunks(o, a, b)
		second, _ := diff3.Chunks(o, a, b)
		merged, _, _ := diff3.Merge(p, q, s)
		again, _, _ := diff3.Merge(p, q, s)
		for _, chunk := range l {
			spoil(chunk.O, "z")
			spoil(chunk.A, "z")
			spoil(chunk.B, "z")
		}
		spoil(l, diff3.Chunk{Kind: 9})
		spoil(merged, 'z')
		if !slices.Equal(o, c[0]) || !slices.Equal(a, c[1]) || !slices.Equal(b, c[2]) {
			t.Fatalf("a write into an answer shows in what was handed in: %q", c)
		}
		if !bytes.Equal(p, joined(c[0])) || !bytes.Equal(q, joined(c[1])) || !bytes.Equal(s, joined(c[2])) {
			t.Fatalf("a write into what is merged shows in what was handed in: %q", c)
		}
		text, _ := mergedOf(want)
		if !slices.EqualFunc(second, want, sameChunk) || string(again) != text {
			t.Fatalf("a write into an answer shows in another one: %q", c)
		}
		check(t, o, a, b)
	}
}

// Of one answer's lists none shows what is written into another one, spare room too.
func TestListsOfOneAnswerShareNothing(t *testing.T) { // P15.3
	lists := func(l []diff3.Chunk) [][]string {
		var all [][]string
		for _, c := range l {
			all = append(all, c.O, c.A, c.B)
		}
		return all
	}
	for _, c := range memoryTexts() {
		want := lists(chunksOf(c[0], c[1], c[2]))
		for i := range want {
			l, _ := diff3.Chunks(c[0], c[1], c[2])
			all := lists(l)
			spoil(all[i], "z")
			for j := range all {
				if j != i && !slices.Equal(all[j], want[j]) {
					t.Fatalf("a write into list %d shows in list %d of %q", i, j, c)
				}
			}
		}
	}
}
