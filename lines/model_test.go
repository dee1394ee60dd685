package lines_test

import (
	"math/big"
	"math/rand"
	"slices"
	"sort"
	"strings"
	"testing"

	"marline/api"
	"marline/lines"
)

// rounds lessens what is done many times, where little time is asked for.
func rounds(n int) int {
	if testing.Short() {
		return n / 10
	}
	return n
}

// splitOf goes byte by byte: an end behind which something comes begins a new line.
func splitOf(b []byte) []string {
	var l []string
	begun := false
	for _, c := range b {
		if !begun {
			l = append(l, "")
		}
		l[len(l)-1] += string([]byte{c})
		begun = c != 10
	}
	return l
}

// isWithin tells whether the lines of part stand in whole, in their order.
func isWithin(part, whole []string) bool {
	for _, line := range part {
		at := slices.Index(whole, line)
		if at < 0 {
			return false
		}
		whole = whole[at+1:]
	}
	return true
}

// longestByAll tries each choice of lines of a. They are to be few.
func longestByAll(a, b []string) int {
	best := 0
	for choice := range 1 << len(a) {
		var part []string
		for i, line := range a {
			if choice>>i&1 == 1 {
				part = append(part, line)
			}
		}
		if len(part) > best && isWithin(part, b) {
			best = len(part)
		}
	}
	return best
}

// longestByEnds has, for each length, the least place in b where a common
// subsequence of this length ends; no table.
func longestByEnds(a, b []string) int {
	places := map[string][]int{}
	for j := len(b) - 1; j >= 0; j-- {
		places[b[j]] = append(places[b[j]], j) // falling
	}
	var ends []int
	for _, line := range a {
		for _, j := range places[line] {
			at := sort.SearchInts(ends, j)
			if at == len(ends) {
				ends = append(ends, j)
			} else {
				ends[at] = j
			}
		}
	}
	return len(ends)
}

// pairsOf says the chapter's words with a length that is worked out anew at each place.
func pairsOf(a, b []string, longest func(a, b []string) int) []lines.Pair {
	var l []lines.Pair
	i, j := 0, 0
	for i < len(a) && j < len(b) {
		if a[i] == b[j] {
			l = append(l, lines.Pair{A: i, B: j})
			i, j = i+1, j+1
		} else if longest(a[i+1:], b[j:]) < longest(a[i:], b[j+1:]) {
			j++
		} else {
			i++
		}
	}
	return l
}

// editsOf goes line by line: what isn't paired belongs to the edit that is open;
// a pair closes it.
func editsOf(a, b []string, pairs []lines.Pair) []lines.Edit {
	var l []lines.Edit
	open := false
	edit := func(i int) *lines.Edit {
		if !open {
			l = append(l, lines.Edit{At: i})
			open = true
		}
		return &l[len(l)-1]
	}
	for i, j := 0, 0; i < len(a) || j < len(b); {
		switch {
		case slices.Contains(pairs, lines.Pair{A: i, B: j}):
			open = false
			i, j = i+1, j+1
		case i < len(a) && !slices.ContainsFunc(pairs, func(p lines.Pair) bool { return p.A == i }):
			edit(i).Del++
			i++
		default:
			e := edit(i)
			e.Ins = append(e.Ins, b[j])
			j++
		}
	}
	return l
}

// patchedOf does the edits from the last one on, so that none moves another one's
// place; it adds numbers that have no bounds.
func patchedOf(a []string, l []lines.Edit) ([]string, api.Errno) {
	ahead := big.NewInt(0)
	for _, e := range l {
		at, del := big.NewInt(int64(e.At)), big.NewInt(int64(e.Del))
		end := new(big.Int).Add(at, del)
		if at.Sign() < 0 || at.Cmp(ahead) < 0 || end.Cmp(big.NewInt(int64(len(a)))) > 0 || del.Sign() < 0 {
			return nil, api.ErrRange
		}
		ahead = end
	}
	a = slices.Clone(a)
	for _, e := range slices.Backward(l) {
		a = slices.Replace(a, e.At, e.At+e.Del, e.Ins...)
	}
	return a, api.OK
}

func sameEdit(a, b lines.Edit) bool {
	return a.At == b.At && a.Del == b.Del && slices.Equal(a.Ins, b.Ins)
}

// textsOf are all texts of up to so many lines of some letters.
func textsOf(letters string, size int) [][]string {
	l := [][]string{nil}
	for last := l; size > 0; size-- {
		var next [][]string
		for _, text := range last {
			for _, c := range letters {
				next = append(next, append(slices.Clone(text), string(c)))
			}
		}
		l = append(l, next...)
		last = next
	}
	return l
}

// someText has so many lines, of so many that are unlike.
func someText(r *rand.Rand, size, unlike int) []string {
	l := make([]string, size)
	for i := range l {
		l[i] = string([]byte{'a' + byte(r.Intn(unlike))})
	}
	return l
}

// edited is a text with some lines left out, put in, or turned.
func edited(r *rand.Rand, a []string, unlike int) []string {
	a = slices.Clone(a)
	for range r.Intn(8) {
		at := r.Intn(len(a) + 1)
		end := min(len(a), at+r.Intn(4))
		a = slices.Replace(a, at, end, someText(r, r.Intn(4), unlike)...)
	}
	return a[:min(len(a), api.MaxLines)]
}

// check holds Match, Diff and Patch against the model, and against what follows.
func check(t *testing.T, a, b []string, longest func(a, b []string) int) {
	t.Helper()
	want := pairsOf(a, b, longest)
	pairs, errno := lines.Match(a, b)
	if errno != api.OK || !slices.Equal(pairs, want) {
		t.Fatalf("Match(%q, %q) = %v, %d, want %v", a, b, pairs, errno, want)
	}
	if len(pairs) != longest(a, b) {
		t.Fatalf("Match(%q, %q) = %v: a longest one has %d", a, b, pairs, longest(a, b))
	}
	edits, errno := lines.Diff(a, b)
	if l := editsOf(a, b, want); errno != api.OK || !slices.EqualFunc(edits, l, sameEdit) {
		t.Fatalf("Diff(%q, %q) = %v, %d, want %v", a, b, edits, errno, l)
	}
	if got, errno := lines.Patch(a, edits); errno != api.OK || !slices.Equal(got, b) {
		t.Fatalf("Patch(%q, %v) = %q, %d, want %q", a, edits, got, errno, b)
	}
}

func TestAllShortTexts(t *testing.T) { // P14.2, P14.3, P14.5
	for _, c := range []struct {
		letters string
		size    int
	}{{"xy", 6}, {"xyz", 4}, {"wxyz", 3}} {
		if testing.Short() {
			c.size--
		}
		l := textsOf(c.letters, c.size)
		for _, a := range l {
			for _, b := range l {
				check(t, a, b, longestByAll)
			}
		}
	}
}

func TestSomeTexts(t *testing.T) { // P14.2, P14.3, P14.5
	r := rand.New(rand.NewSource(1))
	for range rounds(3000) {
		unlike := 1 + r.Intn(20)
		a := someText(r, r.Intn(30), unlike)
		check(t, a, someText(r, r.Intn(30), unlike), longestByEnds)
		check(t, a, edited(r, a, unlike), longestByEnds)
	}
}

func TestSomeLongTexts(t *testing.T) { // P14.2, P14.3, P14.5
	r := rand.New(rand.NewSource(2))
	for range rounds(40) {
		unlike := 2 + r.Intn(100)
		a := someText(r, api.MaxLines-r.Intn(3), unlike)
		check(t, a, someText(r, api.MaxLines-r.Intn(3), unlike), longestByEnds)
		check(t, a, edited(r, a, unlike), longestByEnds)
	}
}

// The two ways to tell how long a longest one is say the same.
func TestTheModelAgreesWithItself(t *testing.T) { // P14.2
	r := rand.New(rand.NewSource(3))
	for range rounds(3000) {
		a, b := someText(r, r.Intn(9), 3), someText(r, r.Intn(9), 3)
		if n, m := longestByAll(a, b), longestByEnds(a, b); n != m {
			t.Fatalf("%q, %q: %d and %d", a, b, n, m)
		}
	}
}

func TestSomeEdits(t *testing.T) { // P14.3
	r := rand.New(rand.NewSource(4))
	numbers := []int{-1 << 63, -1 << 62, -7, -2, -1, 0, 0, 1, 1, 2, 3, 4, 5, 6, 7, 8, 1 << 31, 1 << 62, 1<<63 - 1}
	seen := map[api.Errno]int{}
	for range rounds(60000) {
		a := someText(r, r.Intn(8), 26)
		var l []lines.Edit
		at := 0
		for range r.Intn(5) {
			e := lines.Edit{At: at + r.Intn(2), Del: r.Intn(3), Ins: someText(r, r.Intn(3), 26)}
			at = e.At + e.Del
			l = append(l, e)
		}
		if len(l) > 0 && r.Intn(3) == 0 {
			l[r.Intn(len(l))].At = numbers[r.Intn(len(numbers))]
		}
		if len(l) > 0 && r.Intn(3) == 0 {
			l[r.Intn(len(l))].Del = numbers[r.Intn(len(numbers))]
		}
		got, errno := lines.Patch(a, l)
		want, wantErrno := patchedOf(a, l)
		if errno != wantErrno || !slices.Equal(got, want) {
			t.Fatalf("Patch(%q, %v) = %q, %d, want %q, %d", a, l, got, errno, want, wantErrno)
		}
		seen[errno]++
	}
	if seen[api.OK] < rounds(10000) || seen[api.ErrRange] < rounds(10000) {
		t.Errorf("%v", seen)
	}
}

func TestAllShortBytes(t *testing.T) { // P14.1, P14.5
	size := 7
	if testing.Short() {
		size = 4
	}
	for _, text := range textsOf("\n\x00a\r", size) {
		b := []byte(strings.Join(text, ""))
		if l := lines.Split(b); !slices.Equal(l, splitOf(b)) {
			t.Fatalf("Split(%q) = %q, want %q", b, l, splitOf(b))
		}
		if joined := lines.Join(lines.Split(b)); string(joined) != string(b) {
			t.Fatalf("%q is split and joined as %q", b, joined)
		}
		if joined := lines.Join(text); string(joined) != string(b) {
			t.Fatalf("Join(%q) = %q", text, joined)
		}
		if got := lines.Text(b); got == slices.Contains(text, "\x00") {
			t.Fatalf("Text(%q) = %t", b, got)
		}
	}
}
