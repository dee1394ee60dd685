package sha_test

import (
	"bytes"
	"crypto/sha256"
	"encoding/hex"
	"math/rand"
	"slices"
	"strings"
	"testing"

	"marline/sha"
)

const (
	idOfNothing = "e3b0c44298fc1c149afbf4c8996fb92427ae41e4649b934ca495991b7852b855"
	idOfABC     = "ba7816bf8f01cfea414140de5dae2223b00361a396177a9cb410ff61f20015ad"
)

func randomBytes(r *rand.Rand, n int) []byte {
	b := make([]byte, n)
	r.Read(b)
	return b
}

func TestSumOfKnownTexts(t *testing.T) { // P1.1
	for text, want := range map[string]string{
		"":    idOfNothing,
		"abc": idOfABC,
		"abcdbcdecdefdefgefghfghighijhijkijkljklmklmnlmnomnopnopq":                                                         "248d6a61d20638b8e5c026930c3e6039a33ce45964ff2167f6ecedd419db06c1",
		"abcdefghbcdefghicdefghijdefghijkefghijklfghijklmghijklmnhijklmnoijklmnopjklmnopqklmnopqrlmnopqrsmnopqrstnopqrstu": "cf5b16a778af8380036ce59e7b0492370b249b11e8f07a51afac45037afee9d1",
		strings.Repeat("a", 1000000): "cdc76e5c9914fb9281a1c7e284d73e67f1809a48a497200e046d39ccc7112cd0",
	} {
		if got := hex.EncodeToString(sha.Sum([]byte(text))); got != want {
			t.Errorf("Sum of %d bytes = %s, want %s", len(text), got, want)
		}
		if got := sha.ID([]byte(text)); got != want {
			t.Errorf("ID of %d bytes = %s, want %s", len(text), got, want)
		}
	}
	if got := sha.ID(nil); got != idOfNothing {
		t.Errorf("ID(nil) = %s", got)
	}
}

// The lengths go past three blocks, so that the end mark and the length fall
// on each place of a block.
func TestSumAtEachLength(t *testing.T) { // P1.1
	r := rand.New(rand.NewSource(1))
	lengths := []int{4095, 4096, 20000, 1<<20 + 1}
	for n := range 260 {
		lengths = append(lengths, n)
	}
	for _, n := range lengths {
		b := randomBytes(r, n)
		want := sha256.Sum256(b)
		got := sha.Sum(b)
		if !bytes.Equal(got, want[:]) {
			t.Errorf("Sum of %d bytes = %x, want %x", n, got, want)
		}
		if id := sha.ID(b); id != hex.EncodeToString(want[:]) {
			t.Errorf("ID of %d bytes = %s, want %x", n, id, want)
		}
	}
}

// The number of bits takes more than four bytes from 2^29 bytes on.
func TestSumOfManyBits(t *testing.T) { // P1.1, P1.2
	if testing.Short() {
		t.Skip("half a GiB is hashed")
	}
	const piece = 1 << 20
	h, want := sha.New(), sha256.New()
	b := make([]byte, piece)
	for range 1<<29/piece + 1 {
		h.Write(b)
		want.Write(b)
	}
	if h.Len() != 1<<29+piece || !bytes.Equal(h.Sum(), want.Sum(nil)) {
		t.Errorf("%d bytes: %x", h.Len(), h.Sum())
	}
}

func TestHex(t *testing.T) { // P1.1
	for want, b := range map[string][]byte{
		"":                 nil,
		"00":               {0},
		"0f":               {15},
		"f0":               {240},
		"00ff1001":         {0, 255, 16, 1},
		"0123456789abcdef": {0x01, 0x23, 0x45, 0x67, 0x89, 0xab, 0xcd, 0xef},
	} {
		if got := sha.Hex(b); got != want {
			t.Errorf("Hex(%v) = %q, want %q", b, got, want)
		}
	}
	for c := range 256 {
		b := []byte{byte(c)}
		if got := sha.Hex(b); got != hex.EncodeToString(b) {
			t.Errorf("Hex(%v) = %q", b, got)
		}
	}
}

func TestUnhexOfHex(t *testing.T) { // P1.1
	r := rand.New(rand.NewSource(2))
	for n := range 70 {
		b := randomBytes(r, n)
		got, ok := sha.Unhex(sha.Hex(b))
		if !ok || !bytes.Equal(got, b) {
			t.Errorf("Unhex of Hex(% x) = % x, %v", b, got, ok)
		}
	}
}

// Each text of two bytes is either the Hex of one byte or no one's.
func TestUnhexOfAllPairs(t *testing.T) { // P1.1
	hexes := map[string]byte{}
	for c := range 256 {
		hexes[hex.EncodeToString([]byte{byte(c)})] = byte(c)
	}
	for i := range 1 << 16 {
		s := string([]byte{byte(i >> 8), byte(i)})
		c, want := hexes[s]
		got, ok := sha.Unhex(s)
		if ok != want || ok && !bytes.Equal(got, []byte{c}) || !ok && len(got) > 0 {
			t.Errorf("Unhex(%q) = % x, %v", s, got, ok)
		}
	}
}

func TestUnhexOfNoOnes(t *testing.T) { // P1.1
	for _, s := range []string{
		"0", "00f", "0F", "FF", "0g", "0x00", " 00", "00 ", "00\n", "-1", "+1", "00/0", "00:0", "00`0", "00@0",
		"00gg", "gg00", "0000g0", "00000g", "\x00\x00", "é", "٠٠", "00\xff\xff", strings.ToUpper(idOfABC), idOfABC[1:],
	} {
		if b, ok := sha.Unhex(s); ok || len(b) > 0 {
			t.Errorf("Unhex(%q) = % x, %v", s, b, ok)
		}
	}
}

func TestValid(t *testing.T) { // P1.1
	for _, id := range []string{idOfNothing, idOfABC, strings.Repeat("0", 64), strings.Repeat("f", 64), sha.ID([]byte("x"))} {
		if !sha.Valid(id) {
			t.Errorf("Valid(%q) = false", id)
		}
	}
	for _, id := range []string{
		"", "0", idOfABC[:62], idOfABC[:63], idOfABC + "0", idOfABC + "00", idOfABC + idOfABC,
		strings.ToUpper(idOfABC), idOfABC[:63] + " ", " " + idOfABC[1:], strings.Repeat("é", 32), strings.Repeat("٠", 32), strings.Repeat("\x00", 64),
	} {
		if sha.Valid(id) {
			t.Errorf("Valid(%q) = true", id)
		}
	}
	for at := range 64 {
		for c := range 256 {
			id := idOfABC[:at] + string([]byte{byte(c)}) + idOfABC[at+1:]
			want := c < 128 && strings.ContainsRune("0123456789abcdef", rune(c))
			if sha.Valid(id) != want {
				t.Errorf("Valid(%q) = %v", id, !want)
			}
		}
	}
}

func TestHasherOfNothing(t *testing.T) { // P1.2
	h := sha.New()
	if h.Len() != 0 || sha.Hex(h.Sum()) != idOfNothing {
		t.Errorf("a new one: %d bytes, %x", h.Len(), h.Sum())
	}
	h.Write(nil)
	h.Write([]byte{})
	if h.Len() != 0 || sha.Hex(h.Sum()) != idOfNothing {
		t.Errorf("nothing written: %d bytes, %x", h.Len(), h.Sum())
	}
	if o := sha.New().Copy(); o.Len() != 0 || sha.Hex(o.Sum()) != idOfNothing {
		t.Errorf("the copy of a new one: %d bytes, %x", o.Len(), o.Sum())
	}
}

func TestSumAsOftenAsAsked(t *testing.T) { // P1.2
	r := rand.New(rand.NewSource(3))
	h := sha.New()
	var all []byte
	for range 200 {
		piece := randomBytes(r, r.Intn(100))
		h.Write(piece)
		all = append(all, piece...)
		want := sha256.Sum256(all)
		for range 3 {
			if got := h.Sum(); !bytes.Equal(got, want[:]) {
				t.Fatalf("Sum of %d bytes = %x, want %x", len(all), got, want)
			}
			if h.Len() != len(all) {
				t.Fatalf("Len() = %d, want %d", h.Len(), len(all))
			}
		}
	}
}

func TestHashersAreApart(t *testing.T) { // P1.2
	a, b := sha.New(), sha.New()
	a.Write([]byte("abc"))
	if b.Len() != 0 || sha.Hex(b.Sum()) != idOfNothing {
		t.Errorf("the other one: %d bytes, %x", b.Len(), b.Sum())
	}
	if a.Len() != 3 || sha.Hex(a.Sum()) != idOfABC {
		t.Errorf("the one: %d bytes, %x", a.Len(), a.Sum())
	}
}

// A copy goes on from the bytes written so far; what is written to one of
// both, ahead of a full block or past one, is not in the other.
func TestCopy(t *testing.T) { // P1.2
	r := rand.New(rand.NewSource(4))
	for n := range 200 {
		all, tailH, tailO := randomBytes(r, n), randomBytes(r, r.Intn(150)), randomBytes(r, r.Intn(150))
		h := sha.New()
		h.Write(all)
		o := h.Copy()
		if o.Len() != n || !bytes.Equal(o.Sum(), sha.Sum(all)) {
			t.Fatalf("the copy of %d bytes: %d bytes, %x", n, o.Len(), o.Sum())
		}
		h.Write(tailH)
		if o.Len() != n || !bytes.Equal(o.Sum(), sha.Sum(all)) {
			t.Fatalf("%d bytes: written to the one, changed the copy", n)
		}
		o.Write(tailO)
		allH, allO := slices.Concat(all, tailH), slices.Concat(all, tailO)
		if h.Len() != len(allH) || !bytes.Equal(h.Sum(), sha.Sum(allH)) {
			t.Fatalf("%d bytes: written to the copy, changed the one", n)
		}
		if o.Len() != len(allO) || !bytes.Equal(o.Sum(), sha.Sum(allO)) {
			t.Fatalf("%d bytes: the copy doesn't go on", n)
		}
	}
}

func TestCopyOfCopy(t *testing.T) { // P1.2
	h := sha.New()
	for _, c := range []byte("abc") {
		h.Write([]byte{c})
		h = h.Copy()
		h.Sum()
	}
	if h.Len() != 3 || sha.Hex(h.Sum()) != idOfABC {
		t.Errorf("%d bytes, %x", h.Len(), h.Sum())
	}
}

// sharedRoom is b's bytes with more memory behind their length, and a check
// that neither was written to.
func sharedRoom(b []byte) ([]byte, func() bool) {
	room := slices.Concat(b, bytes.Repeat([]byte{0xaa}, 100))
	before := bytes.Clone(room)
	return room[:len(b)], func() bool { return bytes.Equal(room, before) }
}

func TestArgumentsAreNotChanged(t *testing.T) { // P1.3
	r := rand.New(rand.NewSource(5))
	for n := range 200 {
		b, same := sharedRoom(randomBytes(r, n))
		sha.Sum(b)
		sha.ID(b)
		sha.Hex(b)
		h := sha.New()
		h.Write(b)
		h.Sum()
		h.Write(b)
		h.Copy().Write(b)
		if !same() {
			t.Fatalf("%d bytes handed in were changed", n)
		}
	}
}

func TestBytesBehindTheLengthAreNotRead(t *testing.T) { // P1.3
	r := rand.New(rand.NewSource(6))
	for n := range 200 {
		b, _ := sharedRoom(randomBytes(r, n))
		alone := slices.Clip(bytes.Clone(b))
		h := sha.New()
		h.Write(b)
		if !bytes.Equal(sha.Sum(b), sha.Sum(alone)) || !bytes.Equal(h.Sum(), sha.Sum(alone)) || sha.Hex(b) != sha.Hex(alone) {
			t.Fatalf("%d bytes: what lies behind them was read", n)
		}
	}
}

func TestArgumentsAreNotKept(t *testing.T) { // P1.3
	r := rand.New(rand.NewSource(7))
	for n := 1; n < 200; n++ {
		b := randomBytes(r, n)
		want := sha.Sum(b)
		h := sha.New()
		h.Write(b)
		o := h.Copy()
		text := sha.Hex(b)
		wantText := strings.Clone(text)
		clear(b)
		if !bytes.Equal(h.Sum(), want) || !bytes.Equal(o.Sum(), want) || text != wantText {
			t.Fatalf("%d bytes were kept", n)
		}
	}
}

// spoil writes into a list that was handed out, and into its spare room.
func spoil(b []byte) {
	whole := b[:cap(b)]
	for i := range whole {
		whole[i] ^= 0xff
	}
}

func TestAnswersAreNewMemory(t *testing.T) { // P1.3
	b := []byte("abc")
	h := sha.New()
	h.Write(b)
	for name, ask := range map[string]func() []byte{
		"Sum":        func() []byte { return sha.Sum(b) },
		"Hasher.Sum": h.Sum,
		"Copy.Sum":   func() []byte { return h.Copy().Sum() },
		"Unhex": func() []byte {
			got, _ := sha.Unhex(idOfABC)
			return got
		},
	} {
		first, second := ask(), ask()
		spoil(first)
		if sha.Hex(second) != idOfABC {
			t.Errorf("%s: the answer given later shows what was written into the first one", name)
		}
		spoil(second)
		if sha.Hex(ask()) != idOfABC || string(b) != "abc" || h.Len() != 3 {
			t.Errorf("%s: what is written into an answer shows", name)
		}
	}
	h.Write([]byte("d"))
	if !bytes.Equal(h.Sum(), sha.Sum([]byte("abcd"))) {
		t.Error("what was written into an answer is in the Hasher")
	}
}

func TestTwoPieces(t *testing.T) { // P1.4
	all := randomBytes(rand.New(rand.NewSource(8)), 200)
	for n := range len(all) + 1 {
		want := sha256.Sum256(all[:n])
		for at := range n + 1 {
			h := sha.New()
			h.Write(all[:at])
			h.Write(all[at:n])
			if h.Len() != n || !bytes.Equal(h.Sum(), want[:]) {
				t.Fatalf("%d bytes, then %d: %d bytes, %x", at, n-at, h.Len(), h.Sum())
			}
		}
	}
}

func TestPiecesOfOneLength(t *testing.T) { // P1.4
	all := randomBytes(rand.New(rand.NewSource(9)), 1000)
	want := sha256.Sum256(all)
	for size := 1; size <= 200; size++ {
		h := sha.New()
		for piece := range slices.Chunk(all, size) {
			h.Write(piece)
		}
		if h.Len() != len(all) || !bytes.Equal(h.Sum(), want[:]) {
			t.Errorf("pieces of %d: %d bytes, %x", size, h.Len(), h.Sum())
		}
	}
}

func TestPiecesOfAnyLength(t *testing.T) { // P1.4
	r := rand.New(rand.NewSource(10))
	for range 300 {
		h := sha.New()
		var all []byte
		for range r.Intn(8) {
			piece := randomBytes(r, r.Intn(1+r.Intn(300)))
			h.Write(piece)
			all = append(all, piece...)
		}
		want := sha256.Sum256(all)
		if h.Len() != len(all) || !bytes.Equal(h.Sum(), want[:]) || !bytes.Equal(sha.Sum(all), want[:]) {
			t.Fatalf("%d bytes in pieces: %d bytes, %x", len(all), h.Len(), h.Sum())
		}
	}
}
