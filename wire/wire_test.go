package wire_test

import (
	"bytes"
	"encoding/binary"
	"math"
	"math/rand"
	"slices"
	"testing"

	"marline/api"
	"marline/wire"
)

// edges are the numbers where one more byte begins, or where none is any more.
func edges() []int {
	l := []int{0, 1, 2, 3, 300, 1<<56 - 1, 1 << 56}
	for bits := 3; bits < 56; bits++ {
		l = append(l, 1<<bits-1, 1<<bits, 1<<bits+1)
	}
	return l
}

func TestPutOfKnownNumbers(t *testing.T) { // P2.1
	for n, want := range map[int][]byte{
		0:         {0},
		1:         {1},
		127:       {0x7F},
		128:       {0x80, 1},
		129:       {0x81, 1},
		255:       {0xFF, 1},
		256:       {0x80, 2},
		300:       {0xAC, 0x02},
		16383:     {0xFF, 0x7F},
		16384:     {0x80, 0x80, 1},
		1<<49 - 1: {255, 255, 255, 255, 255, 255, 127},
		1 << 49:   {128, 128, 128, 128, 128, 128, 128, 1},
		1<<56 - 1: {255, 255, 255, 255, 255, 255, 255, 127},
		1 << 56:   {128, 128, 128, 128, 128, 128, 128, 128, 1},
	} {
		b, e := wire.Put(n)
		if e != api.OK || !bytes.Equal(b, want) {
			t.Errorf("Put(%d) = % x, %d, want % x", n, b, e, want)
		}
	}
}

func TestPutAtTheEdges(t *testing.T) { // P2.1
	for _, n := range edges() {
		b, e := wire.Put(n)
		if want := binary.AppendUvarint(nil, uint64(n)); e != api.OK || !bytes.Equal(b, want) {
			t.Errorf("Put(%d) = % x, %d, want % x", n, b, e, want)
		}
	}
}

func TestPutOutOfBounds(t *testing.T) { // P2.1
	for _, n := range []int{-1, -2, -128, math.MinInt, 1<<56 + 1, 1<<56 + 127, 1 << 57, 1 << 62, math.MaxInt} {
		if b, e := wire.Put(n); e != api.ErrRange || len(b) > 0 {
			t.Errorf("Put(%d) = % x, %d", n, b, e)
		}
	}
}

// wantOf works out anew what Get answers: by the library's reader of numbers,
// and by putting them again.
func wantOf(b []byte, at int) (int, int, api.Errno) {
	if at < 0 || at > len(b) {
		return 0, 0, api.ErrRange
	}
	rest := b[at:]
	size := 1 + slices.IndexFunc(rest, func(c byte) bool { return c < 128 })
	if size == 0 {
		return 0, 0, api.ErrShort
	}
	n, read := binary.Uvarint(rest)
	if read != size || n > 1<<56 || !bytes.Equal(binary.AppendUvarint(nil, n), rest[:size]) {
		return 0, 0, api.ErrForm
	}
	return int(n), at + size, api.OK
}

func checkGet(t *testing.T, b []byte, at int) {
	t.Helper()
	n, end, e := wire.Get(b, at)
	if wantN, wantEnd, wantE := wantOf(b, at); n != wantN || end != wantEnd || e != wantE {
		t.Errorf("Get(% x, %d) = %d, %d, %d, want %d, %d, %d", b, at, n, end, e, wantN, wantEnd, wantE)
	}
}

func TestGetOfKnownBytes(t *testing.T) { // P2.1
	for _, c := range []struct {
		b      []byte
		at     int
		n, end int
		e      api.Errno
	}{
		{[]byte{0}, 0, 0, 1, api.OK},
		{[]byte{0xAC, 2}, 0, 300, 2, api.OK},
		{[]byte{0xAC, 2}, 1, 2, 2, api.OK},
		{[]byte{0xAC, 2, 0x80, 7}, 0, 300, 2, api.OK},
		{[]byte{0xFF, 0xFF, 0xAC, 2, 0xFF}, 2, 300, 4, api.OK},
		{[]byte{128, 128, 128, 128, 128, 128, 128, 128, 1}, 0, 1 << 56, 9, api.OK},
		{[]byte{255, 255, 255, 255, 255, 255, 255, 127}, 0, 1<<56 - 1, 8, api.OK},

		{nil, 0, 0, 0, api.ErrShort},
		{[]byte{}, 0, 0, 0, api.ErrShort},
		{[]byte{5}, 1, 0, 0, api.ErrShort},
		{[]byte{0x80}, 0, 0, 0, api.ErrShort},
		{[]byte{0xFF}, 0, 0, 0, api.ErrShort},
		{[]byte{5, 0x80, 0x80}, 1, 0, 0, api.ErrShort},
		{[]byte{255, 255, 255, 255, 255, 255, 255, 255}, 0, 0, 0, api.ErrShort},
		{bytes.Repeat([]byte{0x80}, 9), 0, 0, 0, api.ErrShort},
		{bytes.Repeat([]byte{0xFF}, 1000), 0, 0, 0, api.ErrShort},
		{bytes.Repeat([]byte{0xFF}, 1000), 999, 0, 0, api.ErrShort},

		{[]byte{0x80, 0}, 0, 0, 0, api.ErrForm},
		{[]byte{0xAC, 0x82, 0}, 0, 0, 0, api.ErrForm},
		{[]byte{0x80, 0x80, 0, 1}, 0, 0, 0, api.ErrForm},
		{[]byte{129, 128, 128, 128, 128, 128, 128, 128, 1}, 0, 0, 0, api.ErrForm},
		{[]byte{128, 128, 128, 128, 128, 128, 128, 129, 1}, 0, 0, 0, api.ErrForm},
		{[]byte{128, 128, 128, 128, 128, 128, 128, 128, 2}, 0, 0, 0, api.ErrForm},
		{[]byte{255, 255, 255, 255, 255, 255, 255, 255, 127}, 0, 0, 0, api.ErrForm},
		{[]byte{128, 128, 128, 128, 128, 128, 128, 128, 128, 1}, 0, 0, 0, api.ErrForm},
		{[]byte{129, 128, 128, 128, 128, 128, 128, 128, 128, 2}, 0, 0, 0, api.ErrForm},
		{[]byte{129, 128, 128, 128, 128, 128, 128, 128, 128, 0}, 0, 0, 0, api.ErrForm},
		{append(bytes.Repeat([]byte{0xFF}, 1000), 1), 0, 0, 0, api.ErrForm},
		{append(bytes.Repeat([]byte{0x80}, 1000), 0), 0, 0, 0, api.ErrForm},
		// A shift by this much comes round to 1 in 64 bits.
		{append(bytes.Repeat([]byte{0x80}, 64), 1), 0, 0, 0, api.ErrForm},

		{nil, 1, 0, 0, api.ErrRange},
		{nil, -1, 0, 0, api.ErrRange},
		{[]byte{5}, 2, 0, 0, api.ErrRange},
		{[]byte{5}, -1, 0, 0, api.ErrRange},
		{[]byte{0x80, 0}, 3, 0, 0, api.ErrRange},
		{[]byte{0x80}, -1, 0, 0, api.ErrRange},
		{[]byte{5}, math.MaxInt, 0, 0, api.ErrRange},
		{[]byte{5}, math.MinInt, 0, 0, api.ErrRange},
		// What lies behind the length of b is not read.
		{[]byte{0x80, 1, 1}[:1], 0, 0, 0, api.ErrShort},
		{[]byte{5, 6, 7}[:1], 1, 0, 0, api.ErrShort},
		{[]byte{5, 6, 7}[:1], 2, 0, 0, api.ErrRange},
	} {
		n, end, e := wire.Get(c.b, c.at)
		if n != c.n || end != c.end || e != c.e {
			t.Errorf("Get(% x, %d) = %d, %d, %d, want %d, %d, %d", c.b, c.at, n, end, e, c.n, c.end, c.e)
		}
	}
}

func TestGetOfAllShortBytes(t *testing.T) { // P2.1
	for i := range 1 << 16 {
		b := []byte{byte(i >> 8), byte(i)}
		for at := -1; at <= 3; at++ {
			checkGet(t, b, at)
		}
	}
}

// Few kinds of bytes, so that long numbers, wrong ones and cut ones all come.
func TestGetOfRandomBytes(t *testing.T) { // P2.1
	r := rand.New(rand.NewSource(1))
	kinds := []byte{0, 1, 2, 127, 128, 128, 128, 129, 255, 255, 255, 255}
	for range 20000 {
		b := make([]byte, r.Intn(24))
		for i := range b {
			b[i] = kinds[r.Intn(len(kinds))]
		}
		for at := -1; at <= len(b)+1; at++ {
			checkGet(t, b, at)
		}
	}
}

func TestNumbersAreReadAsTheyWerePut(t *testing.T) { // P2.5
	r := rand.New(rand.NewSource(2))
	numbers := edges()
	for range 2000 {
		numbers = append(numbers, r.Intn(1<<(1+r.Intn(56))))
	}
	r.Shuffle(len(numbers), func(i, j int) { numbers[i], numbers[j] = numbers[j], numbers[i] })
	var all []byte
	for _, n := range numbers {
		b, _ := wire.Put(n)
		all = append(all, b...)
	}
	at := 0
	for i, want := range numbers {
		n, end, e := wire.Get(all, at)
		if n != want || e != api.OK {
			t.Fatalf("number %d is read as %d, %d, want %d", i, n, e, want)
		}
		at = end
	}
	if at != len(all) {
		t.Errorf("the numbers end at %d of %d", at, len(all))
	}
}

func TestWhatIsReadIsPutJustSo(t *testing.T) { // P2.5
	r := rand.New(rand.NewSource(3))
	read := 0
	for range 20000 {
		b := make([]byte, 1+r.Intn(11))
		for i := range b {
			b[i] = byte(r.Intn(256)) | byte(r.Intn(8)/2<<7)
		}
		b[len(b)-1] &= 127
		n, end, e := wire.Get(b, 0)
		if e != api.OK {
			continue
		}
		read++
		if again, e := wire.Put(n); e != api.OK || !bytes.Equal(again, b[:end]) {
			t.Errorf("% x is read as %d, that is put as % x", b[:end], n, again)
		}
	}
	if read < 1000 {
		t.Errorf("only %d numbers were read", read)
	}
}

func TestPutAnswersNewMemory(t *testing.T) { // P2.4
	for _, n := range []int{0, 5, 300, 1 << 56} {
		first, _ := wire.Put(n)
		want := slices.Clone(first)
		spoil(first)
		if second, _ := wire.Put(n); !bytes.Equal(second, want) {
			t.Errorf("Put(%d) again: % x, want % x", n, second, want)
		}
	}
}

// spoil writes into a list and into its spare room.
func spoil[T any](l []T) {
	clear(l[:cap(l)])
}

func TestGetAndCrcChangeNothing(t *testing.T) { // P2.4
	for _, b := range [][]byte{{0xAC, 2, 9}, {0x80, 0, 9}, {0x80, 0x80, 9}, {0xFF, 0xFF, 0xFF}} {
		was := slices.Clone(b)
		wire.Get(b[:2], 0)
		wire.Crc(b[:2])
		if !bytes.Equal(b, was) {
			t.Errorf("% x was changed to % x", was, b)
		}
	}
}
