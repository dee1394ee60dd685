package wire_test

import (
	"hash/crc32"
	"math/rand"
	"strings"
	"testing"

	"marline/wire"
)

func TestCrcOfKnownTexts(t *testing.T) { // P2.2
	for text, want := range map[string]uint32{
		"":                 0,
		"a":                0xE8B7BE43,
		"abc":              0x352441C2,
		"123456789":        0xCBF43926,
		"\x00":             0xD202EF8D,
		"\x00\x00\x00\x00": 0x2144DF1C,
		"\xff\xff\xff\xff": 0xFFFFFFFF,
		"The quick brown fox jumps over the lazy dog": 0x414FA339,
		strings.Repeat("\x00", 32):                    0x190A55AD,
		strings.Repeat("\xff", 32):                    0xFF6CAB0B,
	} {
		if got := wire.Crc([]byte(text)); got != want {
			t.Errorf("Crc(%q) = %08x, want %08x", text, got, want)
		}
	}
	if got := wire.Crc(nil); got != 0 {
		t.Errorf("Crc(nil) = %08x", got)
	}
}

func TestCrcOfAllBytes(t *testing.T) { // P2.2
	for i := range 1 << 16 {
		for _, b := range [][]byte{{byte(i)}, {byte(i >> 8), byte(i)}} {
			if got, want := wire.Crc(b), crc32.ChecksumIEEE(b); got != want {
				t.Fatalf("Crc(% x) = %08x, want %08x", b, got, want)
			}
		}
	}
}

func TestCrcAtEachLength(t *testing.T) { // P2.2
	r := rand.New(rand.NewSource(4))
	lengths := []int{4096, 20000, 1<<20 + 1}
	for n := range 300 {
		lengths = append(lengths, n)
	}
	for _, n := range lengths {
		b := make([]byte, n)
		r.Read(b)
		if got, want := wire.Crc(b), crc32.ChecksumIEEE(b); got != want {
			t.Errorf("Crc of %d bytes = %08x, want %08x", n, got, want)
		}
	}
}
