package pack_test

import (
	"bytes"
	"math/rand"
	"slices"
	"testing"

	"marline/api"
	"marline/delta"
	"marline/pack"
)

// checkParse holds Parse and Index of b against the model.
func checkParse(t *testing.T, b []byte, base baseFunc) api.Errno {
	t.Helper()
	want, errno := parsedOf(b, base)
	read := len(want)
	if errno != api.OK {
		want = nil
	}
	l, n, gotErrno := pack.Parse(b, base)
	if gotErrno != errno || n != read || !sameObjs(l, objsOf(want)) {
		t.Fatalf("Parse of % .300x = %d objects, %d read, %d, want %d, %d, %d", b, len(l), n, gotErrno, len(want), read, errno)
	}
	rows, gotErrno := pack.Index(b, base)
	if gotErrno != errno || !slices.Equal(rows, rowsOf(want)) {
		t.Fatalf("Index of % .300x = %v, %d, want %v, %d", b, rows, gotErrno, rowsOf(want), errno)
	}
	return errno
}

// far is an object elsewhere.
func far() []byte { return blob("0123456789 far away") }

func aShelf() shelf { return shelf{far(), []byte("no object at all"), {}, unlike(50000, 1)} }

func TestParseOfKnownPacks(t *testing.T) { // P10.2, P10.3
	one, near := blob("hi"), blob("0123456789 far away, or near")
	stuff := []byte("no object at all")
	noObject := deltaOf(len(stuff), 3, insertOf("\x01ab"))
	fromNothing := deltaOf(0, 3, insertOf("\x01cd"))
	fromMuch := deltaOf(50000, 9, insertOf("\x01"), copyOf(49992, 8))
	much := slices.Concat([]byte{1}, unlike(50000, 1)[49992:])
	for _, c := range []struct {
		name   string
		pieces [][]byte
		objs   [][]byte
		depths []int
	}{
		{"no objects", nil, nil, nil},
		{"a whole one", [][]byte{wholeOf(one)}, [][]byte{one}, []int{0}},
		{"the least ones", [][]byte{wholeOf(blob("")), wholeOf(tree())}, [][]byte{blob(""), tree()}, []int{0, 0}},
		{"one by one ahead", [][]byte{wholeOf(far()), aheadOf(1, delta.Make(far(), near))}, [][]byte{far(), near}, []int{0, 1}},
		{"one by one ahead of another kind", [][]byte{wholeOf(tree()), aheadOf(1, delta.Make(tree(), one))}, [][]byte{tree(), one}, []int{0, 1}},
		{"one by the farthest one ahead", [][]byte{wholeOf(far()), wholeOf(one), aheadOf(2, delta.Make(far(), near))}, [][]byte{far(), one, near}, []int{0, 0, 1}},
		{"a delta longer than its object", [][]byte{wholeOf(one), aheadOf(1, deltaOf(3, 3, copyOf(0, 1), insertOf("h"), copyOf(2, 1)))}, [][]byte{one, one}, []int{0, 1}},
		{"two by the same one", [][]byte{wholeOf(far()), aheadOf(1, delta.Make(far(), near)), aheadOf(2, delta.Make(far(), near))}, [][]byte{far(), near, near}, []int{0, 1, 1}},
		{"a chain of two", [][]byte{wholeOf(far()), aheadOf(1, delta.Make(far(), near)), aheadOf(1, delta.Make(near, far()))}, [][]byte{far(), near, far()}, []int{0, 1, 2}},
		{"one by one elsewhere", [][]byte{elsewhereOf(hashOf(far()), delta.Make(far(), near))}, [][]byte{near}, []int{1}},
		{"two by one elsewhere", [][]byte{elsewhereOf(hashOf(far()), delta.Make(far(), near)), elsewhereOf(hashOf(far()), delta.Make(far(), far()))}, [][]byte{near, far()}, []int{1, 1}},
		{"a chain from elsewhere", [][]byte{elsewhereOf(hashOf(far()), delta.Make(far(), near)), aheadOf(1, delta.Make(near, far()))}, [][]byte{near, far()}, []int{1, 2}},
		{"by one elsewhere that is no object", [][]byte{elsewhereOf(hashOf(stuff), noObject)}, [][]byte{[]byte("\x01ab")}, []int{1}},
		{"by one elsewhere of no bytes", [][]byte{elsewhereOf(hashOf(nil), fromNothing)}, [][]byte{[]byte("\x01cd")}, []int{1}},
		{"by one elsewhere of very many bytes", [][]byte{elsewhereOf(hashOf(aShelf()[3]), fromMuch)}, [][]byte{much}, []int{1}},
		{"the same object twice", [][]byte{wholeOf(one), wholeOf(one)}, [][]byte{one, one}, []int{0, 0}},
	} {
		b := packOf(c.pieces...)
		l, n, errno := pack.Parse(b, aShelf().base)
		if errno != api.OK || n != len(c.objs) || !sameObjs(l, c.objs) {
			t.Errorf("%s: %q, %d, %d", c.name, l, n, errno)
		}
		var want []pack.Row
		place := 4
		for i, o := range c.objs {
			want = append(want, pack.Row{ID: idOf(o), Place: place, Depth: c.depths[i]})
			place += len(c.pieces[i])
		}
		if rows, errno := pack.Index(b, aShelf().base); errno != api.OK || !slices.Equal(rows, want) {
			t.Errorf("%s: %v, %d, want %v", c.name, rows, errno, want)
		}
		checkParse(t, b, aShelf().base)
	}
}

func deltaOf(base, target int, steps ...[]byte) []byte {
	return slices.Concat(number(base), number(target), bytes.Join(steps, nil))
}

func copyOf(place, size int) []byte {
	return slices.Concat([]byte{1}, number(place), number(size))
}

func insertOf(piece string) []byte {
	return slices.Concat([]byte{2}, number(len(piece)), []byte(piece))
}

// Ahead of all else stand the 36 bytes, then the sum.
func TestParseOfWrongEnds(t *testing.T) { // P10.2
	whole := packOf(wholeOf(blob("hi")))
	turned := bytes.Clone(whole)
	turned[len(turned)-1]++
	first := bytes.Clone(whole)
	first[len(first)-32] ^= 128
	long := closed(closed(bodyOf(513)))
	long[len(long)-1]++
	for _, c := range []struct {
		name string
		b    []byte
		want api.Errno
	}{
		{"nil", nil, api.ErrShort},
		{"no bytes", []byte{}, api.ErrShort},
		{"35 bytes", make([]byte, 35), api.ErrShort},
		{"35 bytes that begin so", packOf()[:35], api.ErrShort},
		{"35 bytes with their sum", closed([]byte("MP1")), api.ErrShort},
		{"35 bytes with their sum, that begin unlike it", closed([]byte("MP2")), api.ErrShort},
		{"32 bytes with their sum", closed(nil), api.ErrShort},
		{"36 bytes", make([]byte, 36), api.ErrSum},
		{"the last byte of the sum", turned, api.ErrSum},
		{"the first byte of the sum", first, api.ErrSum},
		{"no sum", make([]byte, 1000), api.ErrSum},
		{"a byte behind the sum", append(bytes.Clone(whole), 0), api.ErrSum},
		{"the sum turned, too many objects", long, api.ErrSum},
		{"the sum of all with the sum", append(bytes.Clone(whole), hashOf(whole[:len(whole)-1])...), api.ErrSum},
		{"the sum of the bytes behind the mark", append([]byte("MP1\x00"), hashOf([]byte{0})...), api.ErrSum},
	} {
		if l, n, errno := pack.Parse(c.b, nothing); errno != c.want || n != 0 || len(l) > 0 {
			t.Errorf("%s: %d objects, %d, %d, want %d", c.name, len(l), n, errno, c.want)
		}
		checkParse(t, c.b, nothing)
	}
}

// farthest is 2^56, over is none: above 2^56.
func farthest() []byte { return []byte{128, 128, 128, 128, 128, 128, 128, 128, 1} }
func over() []byte     { return []byte{129, 128, 128, 128, 128, 128, 128, 128, 1} }

func TestParseOfWrongBodies(t *testing.T) { // P10.2
	for _, c := range []struct {
		name string
		body []byte
		want api.Errno
	}{
		{"another mark", []byte("MP2\x00"), api.ErrForm},
		{"a small letter", []byte("mP1\x00"), api.ErrForm},
		{"its second letter", []byte("MQ1\x00"), api.ErrForm},
		{"another mark, a number cut off", []byte("MP2\x80"), api.ErrForm},
		{"another mark, too many", slices.Concat([]byte("MP2"), number(513)), api.ErrForm},
		{"the count's form", []byte("MP1\x80\x00"), api.ErrForm},
		{"the count's form, too many", []byte("MP1\x81\x84\x00"), api.ErrForm},
		{"the count is over", slices.Concat([]byte("MP1"), over()), api.ErrForm},
		{"the count is cut", []byte("MP1\x80"), api.ErrShort},
		{"the count is cut, its form wrong", slices.Concat([]byte("MP1"), bytes.Repeat([]byte{128}, 20)), api.ErrShort},
		{"one too many", bodyOf(513), api.ErrLimit},
		{"one too many, a byte that is none", bodyOf(513, []byte{3}), api.ErrLimit},
		{"very many", slices.Concat([]byte("MP1"), farthest()), api.ErrLimit},
		{"as many as may be, and none there", bodyOf(512), api.ErrShort},
		{"bytes left over", bodyOf(0, []byte{0}), api.ErrLong},
		{"bytes left over, of an object", bodyOf(0, wholeOf(blob("hi"))), api.ErrLong},
	} {
		if l, n, errno := pack.Parse(closed(c.body), nothing); errno != c.want || n != 0 || len(l) > 0 {
			t.Errorf("%s: %d objects, %d, %d, want %d", c.name, len(l), n, errno, c.want)
		}
		checkParse(t, closed(c.body), nothing)
	}
}

type wrongPiece struct {
	name  string
	piece [][]byte
	want  api.Errno
}

// wrongPieces are objects that are refused, behind two good ones: a blob of 3
// bytes and the far one.
func wrongPieces() []wrongPiece {
	hash := hashOf(far())
	d := delta.Make(far(), blob("0123456789 far away, or near"))
	again := delta.Make(far(), far())
	return []wrongPiece{
		{"no byte", nil, api.ErrShort},
		{"a byte 3", [][]byte{{3}}, api.ErrForm},
		{"a byte 3 with a whole object", [][]byte{{3, 1, 1}}, api.ErrForm},
		{"a byte 255", [][]byte{{255}}, api.ErrForm},
		{"a byte 128", [][]byte{{128, 0, 1, 1}}, api.ErrForm},

		{"whole: no length", [][]byte{{0}}, api.ErrShort},
		{"whole: its length is cut", [][]byte{{0, 128}}, api.ErrShort},
		{"whole: its length's form", [][]byte{{0, 129, 0, 1}}, api.ErrForm},
		{"whole: its length is over", [][]byte{{0}, over()}, api.ErrForm},
		{"whole: one byte too long", [][]byte{{0}, number(20001)}, api.ErrLong},
		{"whole: one byte too long, all there", [][]byte{wholeOf(blob(string(make([]byte, 20000))))}, api.ErrLong},
		{"whole: far too long", [][]byte{{0}, farthest()}, api.ErrLong},
		{"whole: as long as may be, not all there", [][]byte{{0}, number(20000), blob(string(make([]byte, 19998)))}, api.ErrShort},
		{"whole: no bytes there", [][]byte{{0, 1}}, api.ErrShort},
		{"whole: one byte is missing", [][]byte{{0, 3, 1, 1}}, api.ErrShort},
		{"whole: it is none, and not all there", [][]byte{{0, 3, 9, 9}}, api.ErrShort},
		{"whole: nothing", [][]byte{{0, 0}}, api.ErrForm},
		{"whole: no kind", [][]byte{{0, 1, 9}}, api.ErrForm},
		{"whole: a tree cut off", [][]byte{wholeOf(tree("a")[:5])}, api.ErrForm},
		{"whole: a tree with more behind it", [][]byte{wholeOf(append(tree("a"), 1))}, api.ErrForm},
		{"whole: none, and bytes left over", [][]byte{{0, 1, 9, 9}}, api.ErrForm},

		{"ahead: no number", [][]byte{{1}}, api.ErrShort},
		{"ahead: the number is cut", [][]byte{{1, 129}}, api.ErrShort},
		{"ahead: the number's form", [][]byte{{1, 129, 0, 2}, d}, api.ErrForm},
		{"ahead: the number is over", [][]byte{{1}, over()}, api.ErrForm},
		{"ahead: itself", [][]byte{aheadOf(0, d)}, api.ErrNone},
		{"ahead: one too far", [][]byte{aheadOf(3, d)}, api.ErrNone},
		{"ahead: very far", [][]byte{{1}, farthest(), {0}}, api.ErrNone},
		{"ahead: itself, no length", [][]byte{{1, 0}}, api.ErrNone},
		{"ahead: one too far, the length's form", [][]byte{{1, 3, 129, 0}}, api.ErrNone},
		{"ahead: no length", [][]byte{{1, 1}}, api.ErrShort},
		{"ahead: the length is cut", [][]byte{{1, 1, 129}}, api.ErrShort},
		{"ahead: the length's form", [][]byte{{1, 1, 129, 0}}, api.ErrForm},
		{"ahead: the length is over", [][]byte{{1, 1}, over()}, api.ErrForm},
		{"ahead: no delta", [][]byte{{1, 1, 1}}, api.ErrShort},
		{"ahead: a byte of the delta is missing", [][]byte{aheadOf(1, d)[:2+len(d)]}, api.ErrShort},
		{"ahead: a very long delta", [][]byte{{1, 1}, farthest(), d}, api.ErrShort},
		{"ahead: a wrong delta, not all there", [][]byte{{1, 1, 4, 9, 9, 9}}, api.ErrShort},
		{"ahead: a delta of nothing", [][]byte{aheadOf(1, nil)}, api.ErrShort},
		{"ahead: a delta's length's form", [][]byte{aheadOf(1, []byte{128, 0})}, api.ErrForm},
		{"ahead: a delta of another one", [][]byte{aheadOf(2, d)}, api.ErrSum},
		{"ahead: a delta of too long an object", [][]byte{aheadOf(1, deltaOf(len(far()), 20001))}, api.ErrLong},
		{"ahead: a delta beyond the one ahead", [][]byte{aheadOf(1, deltaOf(len(far()), 9, copyOf(len(far())-8, 9)))}, api.ErrRange},
		{"ahead: a delta beyond its target", [][]byte{aheadOf(1, deltaOf(len(far()), 2, insertOf("\x01ab")))}, api.ErrLong},
		{"ahead: a delta that ends too early", [][]byte{aheadOf(1, deltaOf(len(far()), 3, insertOf("\x01a")))}, api.ErrShort},
		{"ahead: a delta with a step of no kind", [][]byte{aheadOf(1, deltaOf(len(far()), 1, []byte{3}))}, api.ErrForm},
		{"ahead: no object's bytes", [][]byte{aheadOf(1, deltaOf(len(far()), 1, insertOf("\x09")))}, api.ErrForm},
		{"ahead: no bytes", [][]byte{aheadOf(1, deltaOf(len(far()), 0))}, api.ErrForm},
		{"ahead: no object's bytes, and bytes left over", [][]byte{aheadOf(1, deltaOf(len(far()), 0)), {1}}, api.ErrForm},

		{"elsewhere: no hash", [][]byte{{2}}, api.ErrShort},
		{"elsewhere: a byte of the hash is missing", [][]byte{{2}, hash[:31]}, api.ErrShort},
		{"elsewhere: none such", [][]byte{elsewhereOf(hashOf([]byte("?")), d)}, api.ErrNone},
		{"elsewhere: none such, no length", [][]byte{{2}, make([]byte, 32)}, api.ErrNone},
		{"elsewhere: none such, the length's form", [][]byte{{2}, make([]byte, 32), {128, 0}}, api.ErrNone},
		{"elsewhere: it lies in the pack alone", [][]byte{elsewhereOf(hashOf(blob("hi")), deltaOf(3, 1, insertOf("\x01")))}, api.ErrNone},
		{"elsewhere: no length", [][]byte{{2}, hash}, api.ErrShort},
		{"elsewhere: the length is cut", [][]byte{{2}, hash, {129}}, api.ErrShort},
		{"elsewhere: the length's form", [][]byte{{2}, hash, {129, 0}}, api.ErrForm},
		{"elsewhere: the length is over", [][]byte{{2}, hash, over()}, api.ErrForm},
		{"elsewhere: no delta", [][]byte{{2}, hash, {1}}, api.ErrShort},
		{"elsewhere: a byte of the delta is missing", [][]byte{{2}, hash, number(len(d)), d[1:]}, api.ErrShort},
		{"elsewhere: a very long delta", [][]byte{{2}, hash, farthest(), d}, api.ErrShort},
		{"elsewhere: a delta of nothing", [][]byte{elsewhereOf(hash, nil)}, api.ErrShort},
		{"elsewhere: a delta of another one", [][]byte{elsewhereOf(hashOf(nil), again)}, api.ErrSum},
		{"elsewhere: a delta of too long an object", [][]byte{elsewhereOf(hash, deltaOf(len(far()), 20001))}, api.ErrLong},
		{"elsewhere: a delta beyond the one elsewhere", [][]byte{elsewhereOf(hash, deltaOf(len(far()), 9, copyOf(len(far()), 9)))}, api.ErrRange},
		{"elsewhere: no object's bytes", [][]byte{elsewhereOf(hash, deltaOf(len(far()), 1, insertOf("\x00")))}, api.ErrForm},
		{"elsewhere: no bytes", [][]byte{elsewhereOf(hash, deltaOf(len(far()), 0))}, api.ErrForm},
	}
}

func TestParseOfWrongObjects(t *testing.T) { // P10.2, P10.3
	for _, c := range wrongPieces() {
		body := bodyOf(3, append([][]byte{wholeOf(blob("hi")), wholeOf(far())}, c.piece...)...)
		l, n, errno := pack.Parse(closed(body), aShelf().base)
		if errno != c.want || n != 2 || len(l) > 0 {
			t.Errorf("%s: Parse = %d objects, %d, %d, want 2, %d", c.name, len(l), n, errno, c.want)
		}
		rows, errno := pack.Index(closed(body), aShelf().base)
		if errno != c.want || len(rows) > 0 {
			t.Errorf("%s: Index = %v, %d, want %d", c.name, rows, errno, c.want)
		}
		checkParse(t, closed(body), aShelf().base)
	}
}

// Of bytes left over all objects ahead of them were read.
func TestParseOfBytesLeftOver(t *testing.T) { // P10.2, P10.3
	d := delta.Make(far(), far())
	for _, piece := range [][]byte{wholeOf(tree()), aheadOf(1, d), elsewhereOf(hashOf(far()), d)} {
		for _, left := range [][]byte{{0}, {3}, {128}, wholeOf(tree()), closed(nil), make([]byte, 1000)} {
			b := closed(bodyOf(2, wholeOf(far()), piece, left))
			if l, n, errno := pack.Parse(b, aShelf().base); errno != api.ErrLong || n != 2 || len(l) > 0 {
				t.Errorf("%d bytes left over: %d objects, %d, %d", len(left), len(l), n, errno)
			}
			checkParse(t, b, aShelf().base)
		}
	}
}

// chain is a pack with so many deltas one on the other, the first one of
// them by one elsewhere or by a whole one, and the objects' number.
func chain(deltas int, elsewhere bool) ([]byte, int) {
	again := delta.Make(far(), far())
	pieces := [][]byte{wholeOf(far())}
	if elsewhere {
		pieces = [][]byte{elsewhereOf(hashOf(far()), again)}
		deltas--
	}
	for range deltas {
		pieces = append(pieces, aheadOf(1, again))
	}
	return packOf(pieces...), len(pieces)
}

func TestParseOfChains(t *testing.T) { // P10.2
	for _, elsewhere := range []bool{false, true} {
		for deltas := 1; deltas < 20; deltas++ {
			b, count := chain(deltas, elsewhere)
			l, n, errno := pack.Parse(b, aShelf().base)
			switch {
			case deltas <= 8 && (errno != api.OK || n != count || len(l) != count):
				t.Errorf("%d deltas: %d objects, %d, %d", deltas, len(l), n, errno)
			case deltas > 8 && (errno != api.ErrLimit || n != count-(deltas-8) || len(l) > 0):
				t.Errorf("%d deltas: %d objects, %d, %d", deltas, len(l), n, errno)
			}
			checkParse(t, b, aShelf().base)
		}
	}
}

// A depth is refused ahead of the delta's length, behind the number.
func TestParseOfTooDeepAChain(t *testing.T) { // P10.2
	again := delta.Make(far(), far())
	for _, c := range []struct {
		name  string
		piece []byte
		want  api.Errno
	}{
		{"too deep", aheadOf(1, again), api.ErrLimit},
		{"too deep, no length", []byte{1, 1}, api.ErrLimit},
		{"too deep, the length's form", []byte{1, 1, 129, 0}, api.ErrLimit},
		{"too deep, the delta is cut", []byte{1, 1, 9}, api.ErrLimit},
		{"too deep, a wrong delta", aheadOf(1, []byte{9}), api.ErrLimit},
		{"the number's form", []byte{1, 129, 0}, api.ErrForm},
		{"one too far", aheadOf(10, again), api.ErrNone},
		{"deep enough", aheadOf(2, again), api.OK},
		{"the first one again", aheadOf(9, again), api.OK},
		{"one elsewhere", elsewhereOf(hashOf(far()), again), api.OK},
	} {
		pieces := [][]byte{wholeOf(far())}
		for range 8 {
			pieces = append(pieces, aheadOf(1, again))
		}
		b := packOf(append(pieces, c.piece)...)
		if _, n, errno := pack.Parse(b, aShelf().base); errno != c.want || errno != api.OK && n != 9 {
			t.Errorf("%s: %d, %d, want %d", c.name, n, errno, c.want)
		}
		checkParse(t, b, aShelf().base)
	}
}

func TestParseAtTheLimits(t *testing.T) { // P10.2
	for _, count := range []int{127, 128, 511, 512} {
		pieces := slices.Repeat([][]byte{wholeOf(blob("hi"))}, count)
		b := packOf(pieces...)
		if l, n, errno := pack.Parse(b, nothing); errno != api.OK || n != count || len(l) != count {
			t.Errorf("%d objects: %d, %d, %d", count, len(l), n, errno)
		}
		checkParse(t, b, nothing)
		// The first one, told by the number of them all.
		b = packOf(append(pieces[:count-1:count-1], aheadOf(count-1, delta.Make(blob("hi"), tree())))...)
		if errno := checkParse(t, b, nothing); errno != api.OK {
			t.Errorf("%d back: %d", count-1, errno)
		}
	}
	for _, size := range []int{127, 128, 16384, 19999, 20000} {
		o := blob(string(unlike(size-1, size)))
		inserted := deltaOf(3, size, insertOf(string(o)))
		b := packOf(wholeOf(o), wholeOf(blob("hi")), aheadOf(1, inserted), aheadOf(1, delta.Make(o, o)))
		if l, n, errno := pack.Parse(b, nothing); errno != api.OK || n != 4 || !sameObjs(l, [][]byte{o, blob("hi"), o, o}) {
			t.Errorf("an object of %d bytes: %d, %d", size, n, errno)
		}
	}
}

// All bodies that are short, of the bytes that say something here.
func TestParseOfAllShortBodies(t *testing.T) { // P10.2
	kinds := []byte{0, 1, 2, 3, 128}
	longest := 7
	if testing.Short() {
		longest = 6
	}
	seen := map[api.Errno]int{}
	for n := range longest {
		total := 1
		for range n {
			total *= len(kinds)
		}
		for i := range total {
			body := []byte("MP1")
			for rest := i; len(body) < 3+n; rest /= len(kinds) {
				body = append(body, kinds[rest%len(kinds)])
			}
			seen[checkParse(t, closed(body), nothing)]++
			// The same behind an object of 2 bytes.
			seen[checkParse(t, closed(bodyOf(2, wholeOf(tree()), body[3:])), nothing)]++
		}
	}
	for _, errno := range []api.Errno{api.OK, api.ErrShort, api.ErrForm, api.ErrLong, api.ErrNone, api.ErrLimit} {
		if seen[errno] < 20 {
			t.Errorf("%d came %d times", errno, seen[errno])
		}
	}
}

// turned is b with one byte or two turned, left out or put in.
func turned(r *rand.Rand, b []byte) []byte {
	b = bytes.Clone(b)
	for range 1 + r.Intn(2) {
		at := r.Intn(len(b))
		switch r.Intn(5) {
		case 0:
			b[at] ^= 1 << r.Intn(8)
		case 1:
			b[at] = []byte{0, 1, 2, 3, 127, 128, 255}[r.Intn(7)]
		case 2:
			b = slices.Delete(b, at, at+1)
		case 3:
			b = b[:max(at, 1)]
		default:
			b = slices.Insert(b, at, byte(r.Intn(4)))
		}
	}
	return b
}

func TestParseOfTurnedBodies(t *testing.T) { // P10.2, P10.3
	r := rand.New(rand.NewSource(2))
	runs := 2000
	if testing.Short() {
		runs = 300
	}
	seen := map[api.Errno]int{}
	for range runs {
		s := shelf(someObjs(r, 5))
		body := someBody(r, someObjs(r, r.Intn(30)), s)
		lies := func(id string) ([]byte, bool) { return s.base(idOf(s[0])) }
		seen[checkParse(t, closed(body), s.base)]++
		seen[checkParse(t, closed(body), lies)]++
		for range 20 {
			seen[checkParse(t, closed(turned(r, body)), s.base)]++
		}
	}
	for _, errno := range []api.Errno{api.OK, api.ErrShort, api.ErrForm, api.ErrLong, api.ErrNone, api.ErrLimit, api.ErrSum, api.ErrRange} {
		if seen[errno] < 10 {
			t.Errorf("%d came %d times", errno, seen[errno])
		}
	}
}
