package sha

import (
	"bytes"
	"math/big"
	"sync"
	"testing"
)

func firstPrimes(n int) []int64 {
	var primes []int64
	for p := int64(2); len(primes) < n; p++ {
		if big.NewInt(p).ProbablyPrime(0) {
			primes = append(primes, p)
		}
	}
	return primes
}

// rootBits is the first 32 bits behind the point of the root of p that the
// power is told of: the low ones of the greatest x whose power is not above
// p * 2^(32 power).
func rootBits(p, power int64) uint32 {
	bound := new(big.Int).Lsh(big.NewInt(p), uint(32*power))
	var x uint64
	for bit := uint64(1) << 40; bit > 0; bit >>= 1 {
		raised := new(big.Int).Exp(new(big.Int).SetUint64(x|bit), big.NewInt(power), nil)
		if raised.Cmp(bound) <= 0 {
			x |= bit
		}
	}
	return uint32(x)
}

func TestConstantsAreRoots(t *testing.T) { // P1.1
	squares, cubes := squareRoots(), cubeRoots()
	for i, p := range firstPrimes(64) {
		if i < 8 && squares[i] != rootBits(p, 2) {
			t.Errorf("square root of %d: %08x", p, squares[i])
		}
		if cubes[i] != rootBits(p, 3) {
			t.Errorf("cube root of %d: %08x", p, cubes[i])
		}
	}
}

// Constants that were made stay: a second making would undo the mark.
func TestConstantsAreMadeOnce(t *testing.T) { // Ways
	h := New()
	h.constants()[0] = 7
	h.Write([]byte("abc"))
	h.Sum()
	if h.constants()[0] != 7 {
		t.Error("the constants were made again")
	}
	if bytes.Equal(h.Sum(), Sum([]byte("abc"))) {
		t.Error("the Hasher doesn't use the constants that it made")
	}
	if h.Copy().constants()[0] != cubeRoots()[0] {
		t.Error("the copy doesn't make its own constants")
	}
}

func TestSumsAskedAtOnce(t *testing.T) { // P1.2
	h := New()
	sums := make([][]byte, 16)
	var asked sync.WaitGroup
	for i := range sums {
		asked.Go(func() { sums[i] = h.Sum() })
	}
	asked.Wait()
	for _, sum := range sums {
		if !bytes.Equal(sum, Sum(nil)) {
			t.Errorf("Sum() = %x", sum)
		}
	}
}
