package delta_test

import (
	"bytes"
	"math/rand"
	"testing"

	"marline/api"
	"marline/delta"
)

// spoil writes into a list and into its spare room.
func spoil(l []byte) {
	whole := l[:cap(l)]
	for i := range whole {
		whole[i] ^= 0x55
	}
}

// withRoom is l with room behind it, filled with what is to stay there.
func withRoom(l []byte, behind string) []byte {
	room := append(bytes.Clone(l), behind...)
	return room[:len(l)]
}

func stays(l, want []byte, behind string) bool {
	return bytes.Equal(l[:len(l)+len(behind)], append(bytes.Clone(want), behind...))
}

// memoryTexts are texts with steps of each kind, and of one kind alone.
func memoryTexts() [][2][]byte {
	texts := [][2][]byte{
		{nil, nil}, {[]byte("abc"), nil}, {nil, []byte("abc")}, {[]byte("abcdefghij"), []byte("abcdefghij")},
		{[]byte("abcdefghij"), []byte("Xabcdefghij")}, {unlike(300, 1), unlike(200, 1)}, {unlike(300, 1), unlike(200, 1<<20)},
	}
	return append(texts, someTexts(rand.New(rand.NewSource(7)), 200)...)
}

func TestWhatIsHandedInStays(t *testing.T) { // P9.3
	const behind = "abcdefghij\x01\x00\x08"
	for _, c := range memoryTexts() {
		d := madeOf(c[0], c[1])
		base, target, given := withRoom(c[0], behind), withRoom(c[1], behind), withRoom(d, behind)
		delta.Make(base, target)
		delta.Apply(base, given)
		delta.Sizes(given)
		if !stays(base, c[0], behind) || !stays(target, c[1], behind) || !stays(given, d, behind) {
			t.Fatalf("%.40q, %.40q, %.40x were changed", c[0], c[1], d)
		}
	}
}

// What is handed in to one call may be written over ahead of the next one.
func TestWhatIsHandedInIsNotKept(t *testing.T) { // P9.3
	for _, c := range memoryTexts() {
		base, target := bytes.Clone(c[0]), bytes.Clone(c[1])
		d := delta.Make(base, target)
		spoil(base)
		spoil(target)
		if !bytes.Equal(d, madeOf(c[0], c[1])) {
			t.Fatalf("a write into base or target shows in %.40x", d)
		}
		if again := delta.Make(base, target); !bytes.Equal(again, madeOf(base, target)) {
			t.Fatalf("a call shows in the next one: %.40x", again)
		}
		base, given := bytes.Clone(c[0]), bytes.Clone(d)
		got, errno := delta.Apply(base, given)
		spoil(base)
		spoil(given)
		if errno != api.OK || !bytes.Equal(got, c[1]) {
			t.Fatalf("a write into base or delta shows in %.40q", got)
		}
	}
}

func TestAnswersAreNewMemory(t *testing.T) { // P9.3
	for _, c := range memoryTexts() {
		base, target := bytes.Clone(c[0]), bytes.Clone(c[1])
		want := madeOf(base, target)
		first, d := delta.Make(base, target), delta.Make(base, target)
		spoil(first)
		if !bytes.Equal(base, c[0]) || !bytes.Equal(target, c[1]) || !bytes.Equal(d, want) || !bytes.Equal(delta.Make(base, target), want) {
			t.Fatalf("a write into a delta shows in %.40q, %.40q or %.40x", base, target, d)
		}
		one, _ := delta.Apply(base, d)
		other, _ := delta.Apply(base, d)
		spoil(one)
		if !bytes.Equal(base, c[0]) || !bytes.Equal(d, want) || !bytes.Equal(other, c[1]) {
			t.Fatalf("a write into a target shows in %.40q, %.40x or %.40q", base, d, other)
		}
		if again, _ := delta.Apply(base, d); !bytes.Equal(again, c[1]) {
			t.Fatalf("a write into a target shows in the next one, %.40q", again)
		}
	}
}

// What lies behind the length of a list is not read: a match, a copy, an
// insert, a number end where the list ends.
func TestWhatIsBehindIsNotRead(t *testing.T) { // P0.4
	base, target := withRoom([]byte("abcdefgh"), "ijk"), withRoom([]byte("abcdefgh"), "ijk")
	longBase, longTarget := []byte("abcdefghijk"), []byte("abcdefghijk")
	for _, c := range []struct{ base, target, want []byte }{
		{base, target, deltaOf(8, 8, copyOf(0, 8))},
		{base, longTarget, deltaOf(8, 11, copyOf(0, 8), insertOf("ijk"))},
		{longBase, target, deltaOf(11, 8, copyOf(0, 8))},
		{base[:7], longTarget, deltaOf(7, 11, insertOf("abcdefghijk"))},
		{longBase, target[:7], deltaOf(11, 7, insertOf("abcdefg"))},
		{longBase[:0], target, deltaOf(0, 8, insertOf("abcdefgh"))},
	} {
		if d := delta.Make(c.base, c.target); !bytes.Equal(d, c.want) {
			t.Errorf("Make(%q, %q) = % x, want % x", c.base, c.target, d, c.want)
		}
	}
	if got, errno := delta.Apply(base, []byte{8, 2, 1, 7, 2}); errno != api.ErrRange || len(got) > 0 {
		t.Errorf("a copy of what is behind: %q, %d", got, errno)
	}
	for _, c := range []struct {
		d, behind string
	}{{"\x08", "\x00"}, {"", "\x08\x00"}, {"\x08\x01\x02\x01", "x"}, {"\x08\x02\x02\x02x", "y"}, {"\x08\x01", "\x02\x01x"}, {"\x08\x01\x01", "\x00\x01"}, {"\x08\x01\x01\x00", "\x01"}, {"\x08\x81", "\x01"}} {
		d := withRoom([]byte(c.d), c.behind)
		if got, errno := delta.Apply(base, d); errno != api.ErrShort || len(got) > 0 {
			t.Errorf("% x, and % x behind it: %q, %d", d, c.behind, got, errno)
		}
	}
	if from, to, errno := delta.Sizes(withRoom([]byte{8}, "\x01")); from != 0 || to != 0 || errno != api.ErrShort {
		t.Errorf("Sizes reads what is behind: %d, %d, %d", from, to, errno)
	}
}
