package pack_test

import (
	"bytes"
	"math/rand"
	"slices"
	"testing"

	"marline/api"
	"marline/delta"
	"marline/pack"
)

// spoil writes into a list and into its spare room.
func spoil(l []byte) {
	whole := l[:cap(l)]
	for i := range whole {
		whole[i] ^= 0x55
	}
}

// withRoom is l with room behind it, filled with what is to stay there.
func withRoom(l []byte, behind string) []byte {
	room := append(bytes.Clone(l), behind...)
	return room[:len(l)]
}

func stays(l, want []byte, behind string) bool {
	return bytes.Equal(l[:len(l)+len(behind)], append(bytes.Clone(want), behind...))
}

func cloned(objs [][]byte) [][]byte {
	var l [][]byte
	for _, o := range objs {
		l = append(l, bytes.Clone(o))
	}
	return l
}

const behind = "behind it all\x00\x01\x02"

func TestObjectsHandedInStay(t *testing.T) { // P10.4
	r := rand.New(rand.NewSource(3))
	for range 100 {
		objs := someObjs(r, r.Intn(20))
		want, _ := writtenOf(objs)
		given := make([][]byte, 0, len(objs)+2)
		for _, o := range objs {
			given = append(given, withRoom(o, behind))
		}
		room := given[:cap(given)]
		room[len(objs)], room[len(objs)+1] = []byte("behind"), []byte("behind")
		got, errno := pack.Write(given)
		if errno != api.OK || !bytes.Equal(got, want) {
			t.Fatalf("what is behind is read: % x, %d", got, errno)
		}
		for i := range objs {
			if !stays(given[i], objs[i], behind) {
				t.Fatalf("object %d is changed to %q", i, given[i])
			}
		}
		if string(room[len(objs)]) != "behind" || string(room[len(objs)+1]) != "behind" {
			t.Fatal("what lies behind the objects is changed")
		}
		for _, o := range given {
			spoil(o)
		}
		if !bytes.Equal(got, want) {
			t.Fatal("a write into the objects shows in their pack")
		}
		if again, _ := pack.Write(objs); !bytes.Equal(again, want) {
			t.Fatal("a call shows in the next one")
		}
		one, _ := pack.Write(objs)
		other, _ := pack.Write(objs)
		spoil(one)
		if again, _ := pack.Write(objs); !bytes.Equal(other, want) || !bytes.Equal(again, want) {
			t.Fatal("a write into a pack shows in another one")
		}
	}
}

// aPack is a pack with objects of each way, its objects, and the shelf.
func aPack(r *rand.Rand) ([]byte, [][]byte, shelf) {
	s := shelf(someObjs(r, 4))
	objs := someObjs(r, 1+r.Intn(8))
	return closed(someBody(r, objs, s)), objs, s
}

func TestPacksHandedInStay(t *testing.T) { // P10.4
	r := rand.New(rand.NewSource(4))
	for range 300 {
		b, objs, s := aPack(r)
		rows, _ := pack.Index(b, s.base)
		given := withRoom(b, behind)
		var told [][]byte
		base := func(id string) ([]byte, bool) {
			o, ok := s.base(id)
			o = withRoom(o, behind)
			told = append(told, o)
			return o, ok
		}
		l, _, errno := pack.Parse(given, base)
		index, indexErrno := pack.Index(given, base)
		if errno != api.OK || indexErrno != api.OK || !stays(given, b, behind) {
			t.Fatalf("%d, %d, or the pack is changed", errno, indexErrno)
		}
		for _, o := range told {
			if was, _ := s.base(idOf(o)); !stays(o, was, behind) {
				t.Fatalf("what base told is changed to %q", o)
			}
			spoil(o)
		}
		spoil(given)
		if !sameObjs(l, objs) || !slices.Equal(index, rows) {
			t.Fatal("a write into the pack, or into what base told, shows in the answer")
		}
	}
}

func TestAnswersAreNewMemory(t *testing.T) { // P10.4, P0.4
	r := rand.New(rand.NewSource(5))
	for range 300 {
		b, objs, s := aPack(r)
		was, shelved := bytes.Clone(b), cloned(s)
		l, _, _ := pack.Parse(b, s.base)
		other, _, _ := pack.Parse(b, s.base)
		want := cloned(objs)
		for i := range l {
			spoil(l[i])
			want[i] = bytes.Clone(l[i])
			if !sameObjs(l, want) {
				t.Fatalf("a write into object %d shows in another one", i)
			}
		}
		for i := range l {
			l[i] = append(l[i], behind...)
		}
		for i := range l {
			if !bytes.Equal(l[i][:len(want[i])], want[i]) {
				t.Fatalf("what is appended to one object shows in object %d", i)
			}
		}
		if !bytes.Equal(b, was) || !sameObjs(s, shelved) || !sameObjs(other, objs) {
			t.Fatal("a write into an object shows in the pack, on the shelf, or in another answer")
		}
		rows, _ := pack.Index(b, s.base)
		kept := slices.Clone(rows)
		more, _ := pack.Index(b, s.base)
		clear(rows[:cap(rows)])
		if again, _ := pack.Index(b, s.base); !slices.Equal(more, kept) || !slices.Equal(again, kept) {
			t.Fatal("a write into rows shows in others")
		}
	}
}

// What lies behind the length of a pack is not read: neither its sum, nor
// what an object lacks, nor what a base lacks.
func TestWhatIsBehindIsNotRead(t *testing.T) { // P0.4
	whole := packOf(wholeOf(blob("hi")))
	for n := range whole {
		want := api.ErrSum
		if n < 36 {
			want = api.ErrShort
		}
		given := append([]byte{}, whole...)[:n]
		if l, read, errno := pack.Parse(given, nothing); errno != want || read != 0 || len(l) > 0 {
			t.Errorf("%d bytes, the others behind them: %d, %d", n, read, errno)
		}
	}
	base := func(string) ([]byte, bool) { return near()[:len(far())], true }
	d := deltaOf(len(far()), 4, insertOf("\x01"), copyOf(len(far())-2, 3))
	if _, _, errno := pack.Parse(packOf(elsewhereOf(hashOf(far()), d)), base); errno != api.ErrRange {
		t.Errorf("what is behind the base is read: %d", errno)
	}
	given := [][]byte{withRoom(blob("0123456789"), "abcdefghij"), blob("0123456789abcdefghij")}
	want := packOf(wholeOf(given[0]), aheadOf(1, delta.Make(blob("0123456789"), given[1])))
	if b, errno := pack.Write(given); errno != api.OK || !bytes.Equal(b, want) {
		t.Errorf("what is behind an object is read: % x, %d", b, errno)
	}
}
