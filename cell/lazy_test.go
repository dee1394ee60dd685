package cell_test

import (
	"bytes"
	"crypto/sha256"
	"encoding/hex"
	"math/rand"
	"sync"
	"testing"

	"marline/cell"
)

const (
	idOfNothing = "e3b0c44298fc1c149afbf4c8996fb92427ae41e4649b934ca495991b7852b855"
	idOfABC     = "ba7816bf8f01cfea414140de5dae2223b00361a396177a9cb410ff61f20015ad"
)

func idOf(b []byte) string {
	sum := sha256.Sum256(b)
	return hex.EncodeToString(sum[:])
}

func randomBytes(r *rand.Rand, n int) []byte {
	b := make([]byte, n)
	r.Read(b)
	return b
}

func TestLazyOfKnownBytes(t *testing.T) { // P3.1
	for text, want := range map[string]string{"": idOfNothing, "abc": idOfABC} {
		l := cell.NewLazy([]byte(text))
		if l.Times() != 0 {
			t.Errorf("%q: Times() of a new one = %d", text, l.Times())
		}
		for range 2 {
			if id := l.ID(); id != want {
				t.Errorf("%q: ID() = %s, want %s", text, id, want)
			}
		}
		if l.Times() != 1 {
			t.Errorf("%q: Times() behind ID() = %d", text, l.Times())
		}
	}
}

func TestLazyOfNothing(t *testing.T) { // P3.1
	for _, b := range [][]byte{nil, {}, []byte("abc")[:0], []byte("abc")[3:]} {
		l := cell.NewLazy(b)
		if len(l.Bytes()) != 0 || l.Times() != 0 || l.ID() != idOfNothing || l.Times() != 1 || len(l.Bytes()) != 0 {
			t.Errorf("% x: %q, %s, %d", b, l.Bytes(), l.ID(), l.Times())
		}
	}
}

func TestLazyAtEachLength(t *testing.T) { // P3.1
	r := rand.New(rand.NewSource(1))
	lengths := []int{4095, 4096, 20000, 1 << 20}
	for n := range 200 {
		lengths = append(lengths, n)
	}
	for _, n := range lengths {
		b := randomBytes(r, n)
		l := cell.NewLazy(b)
		for i := range 3 {
			if got := l.Bytes(); !bytes.Equal(got, b) {
				t.Errorf("%d bytes: Bytes() are %d others", n, len(got))
			}
			if want := min(i, 1); l.Times() != want {
				t.Errorf("%d bytes: Times() behind %d calls of ID() = %d", n, i, l.Times())
			}
			if got, want := l.ID(), idOf(b); got != want {
				t.Errorf("%d bytes: ID() = %s, want %s", n, got, want)
			}
		}
	}
}

// Other calls than ID don't work the hash out.
func TestTimesOfWhatIsNotAsked(t *testing.T) { // P3.1
	asked, other := cell.NewLazy([]byte("abc")), cell.NewLazy([]byte("abc"))
	for range 3 {
		asked.ID()
		if len(other.Bytes()) != 3 || other.Times() != 0 {
			t.Errorf("Times() = %d", other.Times())
		}
	}
	if asked.Times() != 1 || other.ID() != idOfABC || other.Times() != 1 {
		t.Errorf("Times() = %d and %d", asked.Times(), other.Times())
	}
}

func TestLazyNeitherChangesNorKeepsBytes(t *testing.T) { // P3.1, P0.4
	for _, early := range []bool{true, false} {
		room := []byte("abcbehind")
		l := cell.NewLazy(room[:3])
		if early {
			l.ID()
		}
		if string(room) != "abcbehind" {
			t.Errorf("what was handed in is changed to %q", room)
		}
		clear(room)
		if string(l.Bytes()) != "abc" || l.ID() != idOfABC || l.Times() != 1 {
			t.Errorf("what was handed in is kept: %q, %s, %d", l.Bytes(), l.ID(), l.Times())
		}
		if !bytes.Equal(room, make([]byte, 9)) {
			t.Errorf("what was handed in is changed to %q", room)
		}
	}
}

// spoil writes into a list and into its spare room.
func spoil(b []byte) {
	clear(b[:cap(b)])
}

func TestBytesAreNewMemory(t *testing.T) { // P3.1, P0.4
	for _, text := range []string{"", "abc", "a text of more bytes, that has another spare room"} {
		l := cell.NewLazy([]byte(text))
		first, second := l.Bytes(), l.Bytes()
		spoil(first)
		if string(second) != text || string(l.Bytes()) != text {
			t.Errorf("%q: a write into the first answer shows in %q or in %q", text, second, l.Bytes())
		}
		if l.ID() != idOf([]byte(text)) {
			t.Errorf("%q: a write into an answer shows in ID()", text)
		}
		spoil(l.Bytes())
		if string(l.Bytes()) != text || l.ID() != idOf([]byte(text)) || l.Times() != 1 {
			t.Errorf("%q: a write behind ID() shows: %q, %s, %d", text, l.Bytes(), l.ID(), l.Times())
		}
	}
}

// together runs the work n times at once, each with its own number.
func together(n int, work func(i int)) {
	var ready, done sync.WaitGroup
	start := make(chan struct{})
	ready.Add(n)
	for i := range n {
		done.Go(func() {
			ready.Done()
			<-start
			work(i)
		})
	}
	ready.Wait()
	close(start)
	done.Wait()
}

func TestHashesAskedAtOnce(t *testing.T) { // P3.4
	const many = 16
	b := randomBytes(rand.New(rand.NewSource(2)), 20000)
	want := idOf(b)
	for range 20 {
		l := cell.NewLazy(b)
		var ids [many]string
		var times [many]int
		together(many, func(i int) {
			ids[i] = l.ID()
			times[i] = l.Times()
		})
		for i := range many {
			if ids[i] != want || times[i] != 1 {
				t.Errorf("ID() = %s, want %s; Times() = %d", ids[i], want, times[i])
			}
		}
		if l.Times() != 1 {
			t.Errorf("Times() = %d", l.Times())
		}
	}
}
