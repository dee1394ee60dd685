package delta_test

import (
	"bytes"
	"math/rand"
	"strings"
	"testing"

	"marline/delta"
)

func checkMake(t *testing.T, base, target []byte) {
	t.Helper()
	if got, want := delta.Make(base, target), madeOf(base, target); !bytes.Equal(got, want) {
		t.Fatalf("Make of %d bytes %.40q and %d bytes %.40q = % .60x, want % .60x", len(base), base, len(target), target, got, want)
	}
}

func TestMakeOfKnownTexts(t *testing.T) { // P9.1
	for _, c := range []struct {
		name, base, target string
		want               []byte
	}{
		{"the chapter's example", "abcdefghij", "Xabcdefghij", []byte{0x0A, 0x0B, 2, 1, 0x58, 1, 0, 0x0A}},
		{"nothing", "", "", []byte{0, 0}},
		{"nothing of something", "abcdefgh", "", []byte{8, 0}},
		{"something of nothing", "", "xy", []byte{0, 2, 2, 2, 'x', 'y'}},
		{"a piece of 7 bytes", "abcdefg", "abcdefg", deltaOf(7, 7, insertOf("abcdefg"))},
		{"a piece of 8 bytes", "abcdefgh", "abcdefgh", deltaOf(8, 8, copyOf(0, 8))},
		{"7 bytes of a longer base", "abcdefgh", "abcdefg", deltaOf(8, 7, insertOf("abcdefg"))},
		{"7 bytes, then another one", "abcdefghij", "abcdefgXhij", deltaOf(10, 11, insertOf("abcdefgXhij"))},
		{"8 bytes, then another one", "abcdefghij", "abcdefghXij", deltaOf(10, 11, copyOf(0, 8), insertOf("Xij"))},
		{"the base's end", "XXabcdefgh", "abcdefgh", deltaOf(10, 8, copyOf(2, 8))},
		{"beyond the base's end", "XXabcdefgh", "abcdefghi", deltaOf(10, 9, copyOf(2, 8), insertOf("i"))},
		{"a piece in the midst", "XabcdefghX", "YYabcdefghYY", deltaOf(10, 12, insertOf("YY"), copyOf(1, 8), insertOf("YY"))},
		{"of two places the least", "abcdefgh.abcdefgh", "abcdefgh", deltaOf(17, 8, copyOf(0, 8))},
		{"of three places the least", "-abcdefgh.abcdefgh.abcdefgh", "?abcdefgh", deltaOf(27, 9, insertOf("?"), copyOf(1, 8))},
		{"the longest stands last", "abcdefgh.abcdefghi", "abcdefghi", deltaOf(18, 9, copyOf(9, 9))},
		{"the longest stands first", "abcdefghi.abcdefgh", "abcdefghi", deltaOf(18, 9, copyOf(0, 9))},
		{"the longest stands in the midst", "abcdefgh.abcdefghi.abcdefghi.abcdefgh", "abcdefghij", deltaOf(37, 10, copyOf(9, 9), insertOf("j"))},
		{"longer than a later place has room", "abcdefghij-abcdefgh", "abcdefghi", deltaOf(19, 9, copyOf(0, 9))},
		{"longer and shorter in turn", "abcdefgh.abcdefghi", "abcdefghiabcdefgh?", deltaOf(18, 18, copyOf(9, 9), copyOf(0, 8), insertOf("?"))},
		{"two pieces the other way round", "abcdefghijklmnop", "ijklmnopabcdefgh", deltaOf(16, 16, copyOf(8, 8), copyOf(0, 8))},
		{"a piece again and again", "abcdefgh", "abcdefghabcdefghabcdefgh", deltaOf(8, 24, copyOf(0, 8), copyOf(0, 8), copyOf(0, 8))},
		{"a run longer than the base", "aaaaaaaaaa", strings.Repeat("a", 23), deltaOf(10, 23, copyOf(0, 10), copyOf(0, 10), insertOf("aaa"))},
		{"a run shorter than the base", "aaaaaaaaaa", strings.Repeat("a", 9), deltaOf(10, 9, copyOf(0, 9))},
		{"no piece of the target itself", "", "abcdefghabcdefgh", deltaOf(0, 16, insertOf("abcdefghabcdefgh"))},
		{"the first piece takes from a longer one", "abcdefgh.fghijklmno", "abcdefghijklmno", deltaOf(19, 15, copyOf(0, 8), insertOf("ijklmno"))},
		{"the first piece leaves enough", "abcdefgh.fghijklmnop", "abcdefghijklmnop", deltaOf(20, 16, copyOf(0, 8), copyOf(12, 8))},
		{"a piece that begins one byte on", "bcdefghi", "abcdefghi", deltaOf(8, 9, insertOf("a"), copyOf(0, 8))},
		{"7 bytes ahead of a piece", "abcdefg.12345678", "abcdefg12345678", deltaOf(16, 15, insertOf("abcdefg"), copyOf(8, 8))},
		{"zeros", strings.Repeat("\x00", 9), strings.Repeat("\x00", 8) + "\x01", deltaOf(9, 9, copyOf(0, 8), insertOf("\x01"))},
		{"bytes that are steps", "\x01\x02\x01\x02\x01\x02\x01\x02", "\x02\x01\x02\x01\x02\x01\x02\x01", deltaOf(8, 8, insertOf("\x02\x01\x02\x01\x02\x01\x02\x01"))},
		{"one byte that is another one with a bit set", "abcdefgh", "\xe1bcdefgh", deltaOf(8, 8, insertOf("\xe1bcdefgh"))},
	} {
		if d := delta.Make([]byte(c.base), []byte(c.target)); !bytes.Equal(d, c.want) {
			t.Errorf("%s: Make(%q, %q) = % x, want % x", c.name, c.base, c.target, d, c.want)
		}
	}
}

// unlike is n bytes no 8 of which stand in it twice: numbers, one behind the
// other, in four bytes each.
func unlike(n int, from uint32) []byte {
	var b []byte
	for i := from; len(b) < n; i++ {
		b = append(b, byte(i>>24), byte(i>>16), byte(i>>8), byte(i))
	}
	return b[:n]
}

// Each number of a delta where it takes one byte more.
func TestMakeOfGreatNumbers(t *testing.T) { // P9.1
	for _, n := range []int{127, 128, 129, 255, 256, 300, 16383, 16384, 16385} {
		other, piece := unlike(n, 1<<30), unlike(n, 1<<20)
		both := append(bytes.Clone(other), piece...)
		if got, want := delta.Make(piece, piece), deltaOf(n, n, copyOf(0, n)); !bytes.Equal(got, want) {
			t.Errorf("%d bytes that are copied: % .60x, want % x", n, got, want)
		}
		if got, want := delta.Make(piece, other), deltaOf(n, n, insertOf(string(other))); !bytes.Equal(got, want) {
			t.Errorf("%d bytes that are inserted: % .60x", n, got)
		}
		if n > 10000 {
			continue // both would be too long
		}
		if got, want := delta.Make(both, piece), deltaOf(2*n, n, copyOf(n, n)); !bytes.Equal(got, want) {
			t.Errorf("a copy from place %d: % .60x, want % x", n, got, want)
		}
		if got, want := delta.Make(piece, both), deltaOf(n, 2*n, insertOf(string(other)), copyOf(0, n)); !bytes.Equal(got, want) {
			t.Errorf("a copy behind %d bytes: % .60x", n, got)
		}
	}
	base := unlike(20000, 1)
	if got, want := delta.Make(base, base[16384:16400]), deltaOf(20000, 16, copyOf(16384, 16)); !bytes.Equal(got, want) {
		t.Errorf("a copy from place 16384: % .60x, want % x", got, want)
	}
}

func TestMakeAtTheLimit(t *testing.T) { // P9.1
	most, more := unlike(20000, 7), unlike(20001, 7)
	if got, want := delta.Make(most, most), deltaOf(20000, 20000, copyOf(0, 20000)); !bytes.Equal(got, want) {
		t.Errorf("as much as may be: % .60x", got)
	}
	for _, c := range []struct{ base, target []byte }{{more, nil}, {nil, more}, {more, more}, {more, most}, {most, more}, {more, []byte("x")}, {make([]byte, 1<<20), make([]byte, 1<<20)}} {
		if got := delta.Make(c.base, c.target); len(got) > 0 {
			t.Errorf("Make of %d and %d bytes = % .60x", len(c.base), len(c.target), got)
		}
	}
	// The rest of the memory is none of the text.
	if got, want := delta.Make(more[:20000], more[:20000]), deltaOf(20000, 20000, copyOf(0, 20000)); !bytes.Equal(got, want) {
		t.Errorf("as much as may be, and more behind it: % .60x", got)
	}
}

// Each base and each target of two letters, about as long as a least copy.
func TestMakeOfAllShortTexts(t *testing.T) { // P9.1
	texts := func(n int) [][]byte {
		var l [][]byte
		for i := range 1 << n {
			b := make([]byte, n)
			for j := range b {
				b[j] = 'a' + byte(i>>j&1)
			}
			l = append(l, b)
		}
		return l
	}
	for _, base := range append(texts(8), texts(9)...) {
		for _, target := range append(texts(8), texts(9)...) {
			checkMake(t, base, target)
		}
	}
}

func TestMakeOfRandomTexts(t *testing.T) { // P9.1
	r := rand.New(rand.NewSource(1))
	for _, c := range someTexts(r, 20000) {
		checkMake(t, c[0], c[1])
	}
	for range 2000 {
		checkMake(t, randomBytes(r, r.Intn(12), 1+r.Intn(2)), randomBytes(r, r.Intn(30), 1+r.Intn(2)))
	}
}

// Bases with the same pieces at many places, each a little longer than the
// other ones.
func TestMakeOfRepeatedTexts(t *testing.T) { // P9.1
	r := rand.New(rand.NewSource(2))
	for range 3000 {
		text := randomBytes(r, 8+r.Intn(30), 2+r.Intn(3))
		var base []byte
		for range r.Intn(12) {
			base = append(base, text[:r.Intn(len(text)+1)]...)
			base = append(base, randomBytes(r, r.Intn(3), 4)...)
		}
		target := append(bytes.Clone(text), text[:r.Intn(len(text))]...)
		checkMake(t, base, target)
	}
}

func TestMakeOfLongTexts(t *testing.T) { // P9.1
	if testing.Short() {
		t.Skip("long")
	}
	r := rand.New(rand.NewSource(3))
	pulses := []byte(strings.Repeat(strings.Repeat("a", 99)+"b", 200))
	for _, base := range [][]byte{
		bytes.Repeat([]byte("a"), 20000), bytes.Repeat([]byte("ab"), 10000), pulses, unlike(20000, 99),
		randomBytes(r, 20000, 2), randomBytes(r, 20000, 4), randomBytes(r, 19999, 256), randomBytes(r, 5000, 3),
	} {
		pieces := piecesOf(r, base, 100, 200, 4)
		for _, target := range [][]byte{base, pulses[:5000], pieces[:min(len(pieces), 20000)], randomBytes(r, 300, 2)} {
			checkMake(t, base, target)
		}
	}
}
