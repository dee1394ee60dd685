package diff3_test

import (
	"fmt"
	"math/rand"
	"slices"
	"strconv"
	"strings"
	"testing"

	"marline/api"
	"marline/diff3"
	"marline/lines"
)

// rounds lessens what is done many times, where little time is asked for.
func rounds(n int) int {
	if testing.Short() {
		return n / 10
	}
	return n
}

// partner is the place that a match pairs with a line of its first text, or -1.
func partner(pairs []lines.Pair, i int) int {
	for _, p := range pairs {
		if p.A == i {
			return p.B
		}
	}
	return -1
}

// kindOf tells who changed the lines of a gap. Lists are held against each other
// by how they are written in Go.
func kindOf(o, a, b []string) int {
	same := func(l, m []string) bool { return fmt.Sprintf("%q", l) == fmt.Sprintf("%q", m) }
	kind := diff3.Conflict
	if same(a, b) {
		kind = diff3.Both
	}
	if same(a, o) {
		kind = diff3.OnlyB
	}
	if same(b, o) {
		kind = diff3.OnlyA
	}
	return kind
}

// chunksOf goes line by line of o: ahead of each kept line, and of the end, there
// is a gap, which may have nothing; a kept line joins the Stable chunk ahead of it.
func chunksOf(o, a, b []string) []diff3.Chunk {
	inA, _ := lines.Match(o, a)
	inB, _ := lines.Match(o, b)
	var l []diff3.Chunk
	i, j, k := 0, 0, 0
	gap := func(toO, toA, toB int) {
		c := diff3.Chunk{O: o[i:toO], A: a[j:toA], B: b[k:toB]}
		c.Kind = kindOf(c.O, c.A, c.B)
		if len(c.O) > 0 || len(c.A) > 0 || len(c.B) > 0 {
			l = append(l, c)
		}
	}
	for n, line := range o {
		left, right := partner(inA, n), partner(inB, n)
		if left < 0 || right < 0 {
			continue
		}
		gap(n, left, right)
		if len(l) == 0 || l[len(l)-1].Kind != diff3.Stable {
			l = append(l, diff3.Chunk{Kind: diff3.Stable})
		}
		last := &l[len(l)-1]
		last.O, last.A, last.B = append(last.O, line), append(last.A, line), append(last.B, line)
		i, j, k = n+1, left+1, right+1
	}
	gap(len(o), len(a), len(b))
	return l
}

// mergedOf is what chunks are merged to, false with a Conflict.
func mergedOf(l []diff3.Chunk) (string, bool) {
	merged := ""
	for _, c := range l {
		switch c.Kind {
		case diff3.Stable, diff3.OnlyA, diff3.Both:
			merged += strings.Join(c.A, "")
		case diff3.OnlyB:
			merged += strings.Join(c.B, "")
		case diff3.Conflict:
			return "", false
		}
	}
	return merged, true
}

func sameChunk(c, d diff3.Chunk) bool {
	return c.Kind == d.Kind && slices.Equal(c.O, d.O) && slices.Equal(c.A, d.A) && slices.Equal(c.B, d.B)
}

// whole is the chunks' lines, one behind the other.
func whole(l []diff3.Chunk) (o, a, b []string) {
	for _, c := range l {
		o, a, b = append(o, c.O...), append(a, c.A...), append(b, c.B...)
	}
	return o, a, b
}

// turned is the chunks of texts of which a and b have changed places.
func turned(l []diff3.Chunk) []diff3.Chunk {
	kinds := map[int]int{diff3.OnlyA: diff3.OnlyB, diff3.OnlyB: diff3.OnlyA}
	l = slices.Clone(l)
	for i, c := range l {
		if kind, ok := kinds[c.Kind]; ok {
			c.Kind = kind
		}
		c.A, c.B = c.B, c.A
		l[i] = c
	}
	return l
}

// check holds Chunks against the model, and against what follows.
func check(t *testing.T, o, a, b []string) []diff3.Chunk {
	t.Helper()
	want := chunksOf(o, a, b)
	l, errno := diff3.Chunks(o, a, b)
	if errno != api.OK || !slices.EqualFunc(l, want, sameChunk) {
		t.Fatalf("Chunks(%q, %q, %q) = %v, %d, want %v", o, a, b, l, errno, want)
	}
	if x, y, z := whole(l); !slices.Equal(x, o) || !slices.Equal(y, a) || !slices.Equal(z, b) {
		t.Fatalf("Chunks(%q, %q, %q) = %v", o, a, b, l)
	}
	if back, _ := diff3.Chunks(o, b, a); !slices.EqualFunc(back, turned(want), sameChunk) {
		t.Fatalf("Chunks(%q, %q, %q) = %v, want %v", o, b, a, back, turned(want))
	}
	return l
}

// checkMerge holds Merge against the model, and against what follows. The texts
// are of no more than MaxLines lines.
func checkMerge(t *testing.T, o, a, b string) bool {
	t.Helper()
	split := func(s string) []string { return strings.SplitAfter(s, "\n") }
	lists := [][]string{split(o), split(a), split(b)}
	for i, l := range lists {
		if l[len(l)-1] == "" {
			lists[i] = l[:len(l)-1]
		}
	}
	want, ok := mergedOf(chunksOf(lists[0], lists[1], lists[2]))
	for _, c := range []struct {
		o, a, b, want string
		ok            bool
	}{
		{o, a, b, want, ok}, {o, b, a, want, ok},
		{o, a, o, a, true}, {o, o, a, a, true}, {o, a, a, a, true}, {o, o, o, o, true},
		{o, b, o, b, true}, {o, o, b, b, true}, {o, b, b, b, true},
	} {
		merged, ok, errno := diff3.Merge([]byte(c.o), []byte(c.a), []byte(c.b))
		if string(merged) != c.want || ok != c.ok || errno != api.OK {
			t.Fatalf("Merge(%q, %q, %q) = %q, %t, %d, want %q, %t", c.o, c.a, c.b, merged, ok, errno, c.want, c.ok)
		}
	}
	return ok
}

// textsOf are all texts of up to so many lines of some letters.
func textsOf(letters string, size int) [][]string {
	l := [][]string{nil}
	for last := l; size > 0; size-- {
		var next [][]string
		for _, text := range last {
			for _, c := range letters {
				next = append(next, append(slices.Clone(text), string(c)))
			}
		}
		l = append(l, next...)
		last = next
	}
	return l
}

// numbered is so many lines, all unlike, from a number on.
func numbered(from, size int) []string {
	var l []string
	for i := range size {
		l = append(l, strconv.Itoa(from+i)+"\n")
	}
	return l
}

// someText has so many lines, of so many that are unlike.
func someText(r *rand.Rand, size, unlike int) []string {
	l := make([]string, size)
	for i := range l {
		l[i] = strconv.Itoa(r.Intn(unlike)) + "\n"
	}
	return l
}

// edited is a text with some lines left out, put in, or turned.
func edited(r *rand.Rand, l []string, edits, unlike int) []string {
	l = slices.Clone(l)
	for range edits {
		at := r.Intn(len(l) + 1)
		end := min(len(l), at+r.Intn(4))
		l = slices.Replace(l, at, end, someText(r, r.Intn(4), unlike)...)
	}
	return l[:min(len(l), api.MaxLines)]
}

// textOf is the lines as one text, in one of four of its last line without an end.
func textOf(r *rand.Rand, l []string) string {
	text := strings.Join(l, "")
	if r.Intn(4) == 0 {
		text = strings.TrimSuffix(text, "\n")
	}
	return text
}

func TestAllShortTexts(t *testing.T) { // P15.1, P15.2, P15.4
	for _, c := range []struct {
		letters string
		size    int
	}{{"xy", 4}, {"xyz", 3}, {"wxyz", 2}} {
		if testing.Short() {
			c.size--
		}
		l := textsOf(c.letters, c.size)
		for _, o := range l {
			for _, a := range l {
				for _, b := range l {
					check(t, o, a, b)
				}
			}
		}
	}
}

func TestAllShortBytes(t *testing.T) { // P15.2, P15.4
	size := 4
	if testing.Short() {
		size = 3
	}
	l := textsOf("x\n", size)
	for _, o := range l {
		for _, a := range l {
			for _, b := range l {
				checkMerge(t, strings.Join(o, ""), strings.Join(a, ""), strings.Join(b, ""))
			}
		}
	}
}

func TestSomeTexts(t *testing.T) { // P15.1, P15.2, P15.4
	r := rand.New(rand.NewSource(1))
	kinds := map[int]int{}
	merged := map[bool]int{}
	for range rounds(4000) {
		unlike := 1 + r.Intn(60)
		o := someText(r, r.Intn(40), unlike)
		a, b := edited(r, o, r.Intn(4), unlike), edited(r, o, r.Intn(4), unlike)
		if r.Intn(4) == 0 {
			b = edited(r, a, r.Intn(3), unlike)
		}
		for _, c := range check(t, o, a, b) {
			kinds[c.Kind]++
		}
		merged[checkMerge(t, textOf(r, o), textOf(r, a), textOf(r, b))]++
	}
	for kind := diff3.Stable; kind <= diff3.Conflict; kind++ {
		if kinds[kind] < rounds(200) {
			t.Errorf("kinds %v", kinds)
		}
	}
	if merged[true] < rounds(1000) || merged[false] < rounds(1000) {
		t.Errorf("merged %v", merged)
	}
}

func TestSomeLongTexts(t *testing.T) { // P15.1, P15.2, P15.4
	r := rand.New(rand.NewSource(2))
	for range rounds(60) {
		unlike := 2 + r.Intn(300)
		o := someText(r, api.MaxLines-r.Intn(3), unlike)
		a, b := edited(r, o, r.Intn(20), unlike), edited(r, o, r.Intn(20), unlike)
		check(t, o, a, b)
		checkMerge(t, strings.Join(o, ""), strings.Join(a, ""), strings.Join(b, ""))
	}
}

// part is some lines of o, what a and b have for them, and what they are as one.
type part struct {
	o, a, b, merged []string
	kind            int
}

// someParts has by turns parts that nobody changed and ones that somebody did.
// Each line is unlike all others of its text, so that a match can only be one.
func someParts(r *rand.Rand) []part {
	next := 0
	some := func(least int) []string {
		l := numbered(next, least+r.Intn(4))
		next += len(l)
		return l
	}
	var parts []part
	for i := range r.Intn(10) {
		if i%2 == 0 {
			l := some(1)
			parts = append(parts, part{o: l, a: l, b: l, merged: l, kind: diff3.Stable})
			continue
		}
		o, other, third := some(0), some(0), some(1)
		if len(o) == 0 && len(other) == 0 {
			other = some(1)
		}
		parts = append(parts, []part{
			{o: o, a: other, b: o, merged: other, kind: diff3.OnlyA},
			{o: o, a: o, b: other, merged: other, kind: diff3.OnlyB},
			{o: o, a: other, b: other, merged: other, kind: diff3.Both},
			{o: o, a: third, b: append(some(1), other...), kind: diff3.Conflict},
		}[r.Intn(7)%4])
	}
	return parts
}

// What becomes of lines that are all unlike is plain without any match.
func TestTextsMadeOfParts(t *testing.T) { // P15.1, P15.2
	r := rand.New(rand.NewSource(3))
	fights := 0
	for range rounds(4000) {
		var o, a, b, merged []string
		var want []diff3.Chunk
		fight := false
		for _, p := range someParts(r) {
			o, a, b, merged = append(o, p.o...), append(a, p.a...), append(b, p.b...), append(merged, p.merged...)
			want = append(want, diff3.Chunk{Kind: p.kind, O: p.o, A: p.a, B: p.b})
			fight = fight || p.kind == diff3.Conflict
		}
		if l, errno := diff3.Chunks(o, a, b); errno != api.OK || !slices.EqualFunc(l, want, sameChunk) {
			t.Fatalf("Chunks(%q, %q, %q) = %v, %d, want %v", o, a, b, l, errno, want)
		}
		if fight {
			merged = nil
			fights++
		}
		text, ok, errno := diff3.Merge(lines.Join(o), lines.Join(a), lines.Join(b))
		if errno != api.OK || ok == fight || string(text) != strings.Join(merged, "") {
			t.Fatalf("Merge(%q, %q, %q) = %q, %t, %d, want %q", o, a, b, text, ok, errno, merged)
		}
	}
	if fights < rounds(500) || fights > rounds(3500) {
		t.Errorf("%d fights", fights)
	}
}
