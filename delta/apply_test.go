package delta_test

import (
	"bytes"
	"math/rand"
	"slices"
	"testing"

	"marline/api"
	"marline/delta"
)

func checkApply(t *testing.T, base, d []byte) api.Errno {
	t.Helper()
	got, errno := delta.Apply(base, d)
	if want, wantErrno := appliedOf(base, d); errno != wantErrno || !bytes.Equal(got, want) {
		t.Fatalf("Apply of %d bytes and % .60x = %.40q, %d, want %.40q, %d", len(base), d, got, errno, want, wantErrno)
	}
	from, to, errno := delta.Sizes(d)
	if wantFrom, wantTo, wantErrno := sizesOf(d); from != wantFrom || to != wantTo || errno != wantErrno {
		t.Fatalf("Sizes of % .60x = %d, %d, %d, want %d, %d, %d", d, from, to, errno, wantFrom, wantTo, wantErrno)
	}
	_, errno = appliedOf(base, d)
	return errno
}

func TestApplyOfKnownDeltas(t *testing.T) { // P9.2
	for _, c := range []struct {
		base string
		d    []byte
		want string
	}{
		{"abcdefghij", []byte{0x0A, 0x0B, 2, 1, 0x58, 1, 0, 0x0A}, "Xabcdefghij"},
		{"", []byte{0, 0}, ""},
		{"abc", []byte{3, 0}, ""},
		{"", []byte{0, 2, 2, 2, 'x', 'y'}, "xy"},
		{"", []byte{0, 2, 2, 1, 'x', 2, 1, 'y'}, "xy"},
		{"abc", []byte{3, 1, 1, 0, 1}, "a"},
		{"abc", []byte{3, 1, 1, 2, 1}, "c"},
		{"abc", []byte{3, 3, 1, 0, 3}, "abc"},
		{"abc", []byte{3, 7, 1, 1, 2, 2, 2, 1, 2, 1, 0, 3}, "bc\x01\x02abc"},
		{"abc", []byte{3, 9, 1, 0, 3, 1, 0, 3, 1, 0, 3}, "abcabcabc"},
		{"\x00\x01\x02", []byte{3, 5, 1, 1, 2, 2, 3, 0, 0, 0}, "\x01\x02\x00\x00\x00"},
	} {
		got, errno := delta.Apply([]byte(c.base), c.d)
		if string(got) != c.want || errno != api.OK {
			t.Errorf("Apply(%q, % x) = %q, %d, want %q", c.base, c.d, got, errno, c.want)
		}
	}
}

// far is 2^56 - 1, farthest 2^56, over is none: above 2^56.
func far() []byte      { return []byte{255, 255, 255, 255, 255, 255, 255, 127} }
func farthest() []byte { return []byte{128, 128, 128, 128, 128, 128, 128, 128, 1} }
func over() []byte     { return []byte{129, 128, 128, 128, 128, 128, 128, 128, 1} }

func TestApplyOfWrongDeltas(t *testing.T) { // P9.2
	base := []byte("abcdefghij")
	for _, c := range []struct {
		name string
		d    [][]byte
		want api.Errno
	}{
		{"nothing", nil, api.ErrShort},
		{"one length", [][]byte{{10}}, api.ErrShort},
		{"the first length is cut", [][]byte{{128}}, api.ErrShort},
		{"the second length is cut", [][]byte{{10, 128}}, api.ErrShort},
		{"the first length is cut, its form wrong", [][]byte{bytes.Repeat([]byte{128}, 20)}, api.ErrShort},
		{"the first length's form", [][]byte{{128, 0, 0}}, api.ErrForm},
		{"the first length's form, no second one", [][]byte{{138, 0}}, api.ErrForm},
		{"the first length is over", [][]byte{over(), {0}}, api.ErrForm},
		{"the second length's form", [][]byte{{10, 128, 0}}, api.ErrForm},
		{"the second length is over", [][]byte{{10}, over()}, api.ErrForm},
		{"a wrong first length, no second one", [][]byte{{9}}, api.ErrShort},
		{"a wrong first length, the second one's form", [][]byte{{9, 129, 0}}, api.ErrForm},

		{"one byte less", [][]byte{{9, 0}}, api.ErrSum},
		{"one byte more", [][]byte{{11, 0}}, api.ErrSum},
		{"no base", [][]byte{{0, 0}}, api.ErrSum},
		{"a base far too long", [][]byte{farthest(), {0}}, api.ErrSum},
		{"a wrong base, a target too long", [][]byte{{9}, number(20001)}, api.ErrSum},
		{"a wrong base, a step of no kind", [][]byte{{9, 1, 3}}, api.ErrSum},
		{"a wrong base, told in two bytes", [][]byte{{138, 1, 0}}, api.ErrSum},

		{"as long as may be", [][]byte{{10}, number(20000)}, api.ErrShort},
		{"one byte too long", [][]byte{{10}, number(20001)}, api.ErrLong},
		{"far too long", [][]byte{{10}, far()}, api.ErrLong},
		{"the farthest", [][]byte{{10}, farthest()}, api.ErrLong},
		{"too long, a step of no kind", [][]byte{{10}, number(20001), {3}}, api.ErrLong},

		{"a step 0", [][]byte{{10, 1, 0}}, api.ErrForm},
		{"a step 3", [][]byte{{10, 1, 3}}, api.ErrForm},
		{"a step 255", [][]byte{{10, 1, 255}}, api.ErrForm},
		{"a step 129", [][]byte{{10, 1, 129, 0, 1}}, api.ErrForm},
		{"a step of no kind behind the whole target", [][]byte{{10, 0, 3}}, api.ErrForm},
		{"a step of no kind behind a whole copy", [][]byte{{10, 1, 1, 0, 1, 0}}, api.ErrForm},
		{"a step of no kind with the numbers of a copy", [][]byte{{10, 1, 3, 0, 1}}, api.ErrForm},

		{"a copy's place is missing", [][]byte{{10, 1, 1}}, api.ErrShort},
		{"a copy's place is cut", [][]byte{{10, 1, 1, 128}}, api.ErrShort},
		{"a copy's place's form", [][]byte{{10, 1, 1, 128, 0, 1}}, api.ErrForm},
		{"a copy's place's form, no size", [][]byte{{10, 1, 1, 128, 0}}, api.ErrForm},
		{"a copy's place is over", [][]byte{{10, 1, 1}, over(), {1}}, api.ErrForm},
		{"a copy's size is missing", [][]byte{{10, 1, 1, 0}}, api.ErrShort},
		{"a copy's size is missing, its place wrong", [][]byte{{10, 1, 1, 11}}, api.ErrShort},
		{"a copy's size is cut", [][]byte{{10, 1, 1, 0, 129}}, api.ErrShort},
		{"a copy's size's form", [][]byte{{10, 1, 1, 0, 129, 0}}, api.ErrForm},
		{"a copy's size's form, its place wrong", [][]byte{{10, 1, 1, 11, 129, 0}}, api.ErrForm},
		{"a copy's size is over", [][]byte{{10, 1, 1, 0}, over()}, api.ErrForm},
		{"a copy of nothing", [][]byte{{10, 1, 1, 0, 0}}, api.ErrForm},
		{"a copy of nothing at the base's end", [][]byte{{10, 1, 1, 10, 0}}, api.ErrForm},
		{"a copy of nothing beyond the base", [][]byte{{10, 1, 1, 11, 0}}, api.ErrForm},
		{"a copy of nothing behind the whole target", [][]byte{{10, 0, 1, 0, 0}}, api.ErrForm},

		{"a copy at the base's end", [][]byte{{10, 1, 1, 10, 1}}, api.ErrRange},
		{"a copy beyond the base", [][]byte{{10, 1, 1, 11, 1}}, api.ErrRange},
		{"a copy over the base's end", [][]byte{{10, 9, 1, 9, 2}}, api.ErrRange},
		{"a copy of more than the base", [][]byte{{10, 11, 1, 0, 11}}, api.ErrRange},
		{"a copy over the base's end and the target's", [][]byte{{10, 1, 1, 0, 11}}, api.ErrRange},
		{"a copy over the base's end, behind the whole target", [][]byte{{10, 0, 1, 10, 1}}, api.ErrRange},
		{"a copy from far", [][]byte{{10, 1, 1}, farthest(), {1}}, api.ErrRange},
		{"a copy of very much", [][]byte{{10, 1, 1, 0}, farthest()}, api.ErrRange},
		{"a copy of very much from far", [][]byte{{10, 1, 1}, farthest(), farthest()}, api.ErrRange},

		{"an insert's size is missing", [][]byte{{10, 1, 2}}, api.ErrShort},
		{"an insert's size is cut", [][]byte{{10, 1, 2, 129}}, api.ErrShort},
		{"an insert's size's form", [][]byte{{10, 1, 2, 129, 0, 'x'}}, api.ErrForm},
		{"an insert's size is over", [][]byte{{10, 1, 2}, over()}, api.ErrForm},
		{"an insert of nothing", [][]byte{{10, 1, 2, 0}}, api.ErrForm},
		{"an insert of nothing behind the whole target", [][]byte{{10, 0, 2, 0}}, api.ErrForm},
		{"an insert's bytes are missing", [][]byte{{10, 1, 2, 1}}, api.ErrShort},
		{"one of an insert's bytes is missing", [][]byte{{10, 2, 2, 2, 'x'}}, api.ErrShort},
		{"an insert's bytes are missing, it goes beyond the target", [][]byte{{10, 1, 2, 9, 'x'}}, api.ErrShort},
		{"an insert of very much", [][]byte{{10, 1, 2}, farthest(), {'x'}}, api.ErrShort},

		{"a copy goes beyond the target", [][]byte{{10, 1, 1, 0, 2}}, api.ErrLong},
		{"a copy beyond an empty target", [][]byte{{10, 0, 1, 0, 1}}, api.ErrLong},
		{"a second copy goes beyond the target", [][]byte{{10, 1, 1, 9, 1, 1, 0, 1}}, api.ErrLong},
		{"a copy goes partly beyond the target", [][]byte{{10, 3, 1, 0, 2, 1, 0, 2}}, api.ErrLong},
		{"a copy goes beyond the target, then no kind", [][]byte{{10, 1, 1, 0, 2, 3}}, api.ErrLong},
		{"an insert goes beyond the target", [][]byte{{10, 1, 2, 2, 'x', 'y'}}, api.ErrLong},
		{"an insert beyond an empty target", [][]byte{{10, 0, 2, 1, 'x'}}, api.ErrLong},
		{"a second insert goes beyond the target", [][]byte{{10, 1, 2, 1, 'x', 2, 1, 'y'}}, api.ErrLong},
		{"an insert goes beyond the target, then it is cut", [][]byte{{10, 1, 2, 2, 'x', 'y', 1}}, api.ErrLong},

		{"no step", [][]byte{{10, 1}}, api.ErrShort},
		{"one byte too short", [][]byte{{10, 3, 1, 9, 1, 1, 0, 1}}, api.ErrShort},
		{"one byte too short behind an insert", [][]byte{{10, 3, 2, 2, 'x', 'y'}}, api.ErrShort},
	} {
		d := bytes.Join(c.d, nil)
		if got, errno := delta.Apply(base, d); errno != c.want || len(got) > 0 {
			t.Errorf("%s: Apply(%q, % x) = %q, %d, want %d", c.name, base, d, got, errno, c.want)
		}
		checkApply(t, base, d)
	}
}

// Of the base's length there is no bound but what is told.
func TestApplyAtTheLimit(t *testing.T) { // P9.2
	base := unlike(40000, 5)
	for _, size := range []int{19999, 20000} {
		whole := deltaOf(40000, size, copyOf(40000-size, size))
		if got, errno := delta.Apply(base, whole); errno != api.OK || !bytes.Equal(got, base[40000-size:]) {
			t.Errorf("a copy of %d bytes: %d bytes, %d", size, len(got), errno)
		}
		inserted := deltaOf(40000, size, insertOf(string(base[:size])))
		if got, errno := delta.Apply(base, inserted); errno != api.OK || !bytes.Equal(got, base[:size]) {
			t.Errorf("an insert of %d bytes: %d bytes, %d", size, len(got), errno)
		}
	}
	for _, c := range []struct {
		d    []byte
		want api.Errno
	}{
		{deltaOf(40000, 20001, copyOf(0, 20001)), api.ErrLong},
		{deltaOf(40000, 20000, copyOf(0, 20001)), api.ErrLong},
		{deltaOf(40000, 20000, copyOf(20000, 20001)), api.ErrRange},
		{deltaOf(40000, 20000, copyOf(0, 20000), copyOf(0, 1)), api.ErrLong},
		{deltaOf(40000, 20000, copyOf(0, 19999)), api.ErrShort},
		{deltaOf(39999, 20000, copyOf(0, 20000)), api.ErrSum},
		{deltaOf(20000, 20000, copyOf(0, 20000)), api.ErrSum},
	} {
		if got, errno := delta.Apply(base, c.d); errno != c.want || len(got) > 0 {
			t.Errorf("Apply of % x = %d bytes, %d, want %d", c.d, len(got), errno, c.want)
		}
	}
}

// All bytes that are short, of the kinds that say something here.
func TestApplyOfAllShortDeltas(t *testing.T) { // P9.2
	base := []byte("abcdefghij")
	kinds := []byte{0, 1, 2, 3, 10, 128}
	seen := map[api.Errno]int{}
	for n := range 6 {
		total := 1
		for range n {
			total *= len(kinds)
		}
		for i := range total {
			tail := make([]byte, 0, n)
			for rest := i; len(tail) < n; rest /= len(kinds) {
				tail = append(tail, kinds[rest%len(kinds)])
			}
			seen[checkApply(t, base, tail)]++
			for to := range 4 {
				seen[checkApply(t, base, append(head(len(base), to), tail...))]++
			}
		}
	}
	for _, errno := range []api.Errno{api.OK, api.ErrShort, api.ErrForm, api.ErrSum, api.ErrRange, api.ErrLong} {
		if seen[errno] < 20 {
			t.Errorf("%d came %d times", errno, seen[errno])
		}
	}
}

// turned is d with one byte or more turned, left out or put in.
func turned(r *rand.Rand, d []byte) []byte {
	d = bytes.Clone(d)
	for range 1 + r.Intn(2) {
		at := r.Intn(len(d))
		switch r.Intn(4) {
		case 0:
			d[at] ^= 1 << r.Intn(8)
		case 1:
			d[at] = []byte{0, 1, 2, 127, 128, 255}[r.Intn(6)]
		case 2:
			d = slices.Delete(d, at, at+1)
		default:
			d = slices.Insert(d, at, byte(r.Intn(4)))
		}
		if len(d) == 0 {
			break
		}
	}
	return d
}

func TestApplyOfTurnedDeltas(t *testing.T) { // P9.2
	r := rand.New(rand.NewSource(4))
	seen := map[api.Errno]int{}
	for _, c := range someTexts(r, 1000) {
		d := delta.Make(c[0], c[1])
		for range 50 {
			seen[checkApply(t, c[0], turned(r, d))]++
		}
	}
	for _, errno := range []api.Errno{api.OK, api.ErrShort, api.ErrForm, api.ErrSum, api.ErrRange, api.ErrLong} {
		if seen[errno] < 100 {
			t.Errorf("%d came %d times", errno, seen[errno])
		}
	}
}

func TestSizesOfKnownDeltas(t *testing.T) { // P9.2
	for _, c := range []struct {
		d            []byte
		base, target int
		want         api.Errno
	}{
		{[]byte{0, 0}, 0, 0, api.OK},
		{[]byte{10, 11, 2, 1, 'X', 1, 0, 10}, 10, 11, api.OK},
		{[]byte{128, 1, 5, 77}, 128, 5, api.OK},
		{[]byte{5, 128, 1}, 5, 128, api.OK},
		{[]byte{5, 6, 128}, 5, 6, api.OK},
		{head(20000, 20001), 20000, 20001, api.OK},
		{head(20001, 20000), 20001, 20000, api.OK},
		{append(farthest(), far()...), 1 << 56, 1<<56 - 1, api.OK},

		{nil, 0, 0, api.ErrShort},
		{[]byte{}, 0, 0, api.ErrShort},
		{[]byte{10}, 0, 0, api.ErrShort},
		{[]byte{128}, 0, 0, api.ErrShort},
		{[]byte{10, 128}, 0, 0, api.ErrShort},
		{[]byte{10, 128, 128}, 0, 0, api.ErrShort},
		{[]byte{138, 1}, 0, 0, api.ErrShort},
		{[]byte{138, 0}, 0, 0, api.ErrForm},
		{[]byte{138, 0, 5}, 0, 0, api.ErrForm},
		{[]byte{10, 128, 0}, 0, 0, api.ErrForm},
		{append(over(), 5), 0, 0, api.ErrForm},
		{append([]byte{10}, over()...), 0, 0, api.ErrForm},
		{append([]byte{10}, bytes.Repeat([]byte{255}, 30)...), 0, 0, api.ErrShort},
		{append(bytes.Repeat([]byte{255}, 30), 1, 5), 0, 0, api.ErrForm},
	} {
		base, target, errno := delta.Sizes(c.d)
		if base != c.base || target != c.target || errno != c.want {
			t.Errorf("Sizes(% x) = %d, %d, %d, want %d, %d, %d", c.d, base, target, errno, c.base, c.target, c.want)
		}
	}
}
