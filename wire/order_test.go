package wire_test

import (
	"bytes"
	"math/rand"
	"slices"
	"strings"
	"testing"

	"marline/wire"
)

// someTexts are unlike by bytes; letters and runes have another order.
func someTexts() []string {
	return []string{
		"", "\x00", "\x00\x00", "\x00a", " ", "-", ".", "/", "0", "10", "2", "A", "B", "Z", "a", "a\x00", "a-b", "a/b", "a0", "aB",
		"aa", "ab", "b", "z", "~", "\x7f", "\x80", "\u00e9", "e\u0301", "ÿ", "٠", "\uffff", "\U0001f600", "\xff", "\xff\xff",
	}
}

func TestCompare(t *testing.T) { // P2.2
	l := someTexts()
	for _, a := range l {
		for _, b := range l {
			want := bytes.Compare([]byte(a), []byte(b))
			if got := wire.Compare(a, b); got != want {
				t.Errorf("Compare(%q, %q) = %d, want %d", a, b, got, want)
			}
			if back := wire.Compare(b, a); back != -want {
				t.Errorf("Compare(%q, %q) = %d, want %d", b, a, back, -want)
			}
		}
	}
	for _, c := range []struct {
		a, b string
		want int
	}{
		{"", "", 0}, {"", "a", -1}, {"a", "", 1}, {"a", "b", -1}, {"b", "a", 1}, {"a", "a", 0}, {"a", "aa", -1}, {"b", "aa", 1},
		{"B", "a", -1}, {"10", "2", -1}, {"a/b", "a-b", 1}, {"\xff", "é", 1}, {strings.Repeat("x", 5000) + "a", strings.Repeat("x", 5000) + "b", -1},
	} {
		if got := wire.Compare(c.a, c.b); got != c.want {
			t.Errorf("Compare(%q, %q) = %d, want %d", c.a, c.b, got, c.want)
		}
	}
}

func checkOrder(t *testing.T, a, b []string) {
	t.Helper()
	sorted := slices.Sorted(slices.Values(a))
	if got := wire.Sort(a); !slices.Equal(got, sorted) {
		t.Errorf("Sort(%q) = %q", a, got)
	}
	if got, want := wire.Unique(a), slices.Compact(slices.Clone(sorted)); !slices.Equal(got, want) {
		t.Errorf("Unique(%q) = %q", a, got)
	}
	both := slices.Compact(slices.Sorted(slices.Values(slices.Concat(a, b))))
	if got := wire.Merge(a, b); !slices.Equal(got, both) {
		t.Errorf("Merge(%q, %q) = %q", a, b, got)
	}
	if got := wire.Merge(b, a); !slices.Equal(got, both) {
		t.Errorf("Merge(%q, %q) = %q", b, a, got)
	}
	for _, s := range append(slices.Clone(b), "", "a", "no such text") {
		if got := wire.Has(a, s); got != slices.Contains(a, s) {
			t.Errorf("Has(%q, %q) = %v", a, s, got)
		}
	}
}

// Each order of up to four texts, like ones among them.
func TestOrderOfAllShortLists(t *testing.T) { // P2.3
	texts := []string{"", "a", "aa", "b"}
	for n := range 5 {
		total := 1
		for range n {
			total *= len(texts)
		}
		for i := range total {
			var l []string
			for rest := i; len(l) < n; rest /= len(texts) {
				l = append(l, texts[rest%len(texts)])
			}
			checkOrder(t, l, []string{"a", "c"})
		}
	}
}

func randomTexts(r *rand.Rand, n, letters int) []string {
	l := make([]string, n)
	for i := range l {
		b := make([]byte, r.Intn(4))
		for j := range b {
			b[j] = byte(r.Intn(letters) * 255 / letters)
		}
		l[i] = string(b)
	}
	return l
}

func TestOrderAtEachLength(t *testing.T) { // P2.3
	r := rand.New(rand.NewSource(5))
	for n := range 140 {
		for _, letters := range []int{1, 3, 256} {
			checkOrder(t, randomTexts(r, n, letters), randomTexts(r, r.Intn(40), letters))
		}
	}
}

func TestOrderOfOrderedLists(t *testing.T) { // P2.3
	up := someTexts()
	slices.Sort(up)
	down := slices.Clone(up)
	slices.Reverse(down)
	same := make([]string, 33)
	for _, a := range [][]string{nil, {}, {""}, {"a"}, up, down, same} {
		for _, b := range [][]string{nil, {}, {""}, {"b"}, up, down, same} {
			checkOrder(t, a, b)
		}
	}
}

func TestOrderOfManyTexts(t *testing.T) { // P2.3
	r := rand.New(rand.NewSource(6))
	for _, n := range []int{1 << 15, 1<<15 + 1, 100000} {
		l := make([]string, n)
		for i := range l {
			l[i] = strings.Repeat("x", r.Intn(3)) + string(rune('a'+r.Intn(26))) + string(rune('a'+r.Intn(26)))
		}
		want := slices.Sorted(slices.Values(l))
		if !slices.Equal(wire.Sort(l), want) {
			t.Errorf("Sort of %d texts", n)
		}
		if !slices.Equal(wire.Unique(l), slices.Compact(want)) {
			t.Errorf("Unique of %d texts", n)
		}
	}
}

// What is handed in has room behind it that must not be touched either.
func TestOrderChangesNothing(t *testing.T) { // P2.4
	a := []string{"c", "b", "b", "a", "behind", "a"}
	b := []string{"d", "b", "a", "behind", "b"}
	wasA, wasB := slices.Clone(a), slices.Clone(b)
	wire.Sort(a[:4])
	wire.Unique(a[:4])
	wire.Merge(a[:4], b[:3])
	wire.Merge(a[:0], b[:3])
	wire.Merge(a[:4], nil)
	wire.Has(a[:4], "behind")
	if !slices.Equal(a, wasA) || !slices.Equal(b, wasB) {
		t.Errorf("%q and %q were changed to %q and %q", wasA, wasB, a, b)
	}
	if wire.Has(a[:4], "behind") {
		t.Error("Has looks behind the length")
	}
	if got := wire.Merge(a[:4], b[:3]); !slices.Equal(got, []string{"a", "b", "c", "d"}) {
		t.Errorf("Merge looks behind the lengths: %q", got)
	}
}

func TestOrderAnswersNewMemory(t *testing.T) { // P2.4
	calls := map[string]func(l []string) []string{
		"Sort":           wire.Sort,
		"Unique":         wire.Unique,
		"Merge(l, nil)":  func(l []string) []string { return wire.Merge(l, nil) },
		"Merge(nil, l)":  func(l []string) []string { return wire.Merge(nil, l) },
		"Merge(l, l)":    func(l []string) []string { return wire.Merge(l, l) },
		"Merge(l, l[1])": func(l []string) []string { return wire.Merge(l, l[len(l)/2:]) },
	}
	for name, call := range calls {
		for _, l := range [][]string{{"a", "behind"}, {"a", "b", "behind"}, {"b", "a", "behind"}, {"c", "a", "a", "b", "behind"}, {"", "behind"}, {"behind"}} {
			was := slices.Clone(l)
			given := l[:len(l)-1]
			first, second := call(given), call(given)
			want := slices.Clone(second)
			spoil(first)
			if !slices.Equal(l, was) || !slices.Equal(second, want) {
				t.Errorf("%s: a write into the answer shows in %q or in %q", name, l, second)
			}
			spoil(l)
			if !slices.Equal(second, want) {
				t.Errorf("%s: a write into the argument shows in %q", name, second)
			}
		}
	}
}
