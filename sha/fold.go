package sha

import "math/bits"

const blockSize = 64 // bytes that are folded in at once

// fold is the state behind one more block (FIPS 180-4, 6.2.2).
func fold(state [8]uint32, block []byte, added *[64]uint32) [8]uint32 {
	words := schedule(block)
	a, b, c, d := state[0], state[1], state[2], state[3]
	e, f, g, h := state[4], state[5], state[6], state[7]
	for i := range words {
		choice := e&f ^ ^e&g
		majority := a&b ^ a&c ^ b&c
		first := h + turned(e, 6, 11, 25) + choice + added[i] + words[i]
		second := turned(a, 2, 13, 22) + majority
		a, b, c, d, e, f, g, h = first+second, a, b, c, d+first, e, f, g
	}
	return [8]uint32{
		state[0] + a, state[1] + b, state[2] + c, state[3] + d,
		state[4] + e, state[5] + f, state[6] + g, state[7] + h,
	}
}

func schedule(block []byte) [64]uint32 {
	var words [64]uint32
	for i := range 16 {
		four := block[4*i : 4*i+4]
		words[i] = uint32(four[0])<<24 | uint32(four[1])<<16 | uint32(four[2])<<8 | uint32(four[3])
	}
	for i := 16; i < 64; i++ {
		words[i] = words[i-16] + words[i-7] + shifted(words[i-15], 7, 18, 3) + shifted(words[i-2], 17, 19, 10)
	}
	return words
}

func turned(word uint32, x, y, z int) uint32 {
	return bits.RotateLeft32(word, -x) ^ bits.RotateLeft32(word, -y) ^ bits.RotateLeft32(word, -z)
}

func shifted(word uint32, x, y, z int) uint32 {
	return bits.RotateLeft32(word, -x) ^ bits.RotateLeft32(word, -y) ^ word>>z
}

// squareRoots is the state that all begin with: the first 32 bits behind the
// point of the square roots of the first 8 primes.
func squareRoots() [8]uint32 {
	return [8]uint32{
		0x6a09e667, 0xbb67ae85, 0x3c6ef372, 0xa54ff53a,
		0x510e527f, 0x9b05688c, 0x1f83d9ab, 0x5be0cd19,
	}
}

// cubeRoots is what the 64 steps add: the first 32 bits behind the point of
// the cube roots of the first 64 primes.
func cubeRoots() [64]uint32 {
	return [64]uint32{
		0x428a2f98, 0x71374491, 0xb5c0fbcf, 0xe9b5dba5, 0x3956c25b, 0x59f111f1, 0x923f82a4, 0xab1c5ed5,
		0xd807aa98, 0x12835b01, 0x243185be, 0x550c7dc3, 0x72be5d74, 0x80deb1fe, 0x9bdc06a7, 0xc19bf174,
		0xe49b69c1, 0xefbe4786, 0x0fc19dc6, 0x240ca1cc, 0x2de92c6f, 0x4a7484aa, 0x5cb0a9dc, 0x76f988da,
		0x983e5152, 0xa831c66d, 0xb00327c8, 0xbf597fc7, 0xc6e00bf3, 0xd5a79147, 0x06ca6351, 0x14292967,
		0x27b70a85, 0x2e1b2138, 0x4d2c6dfc, 0x53380d13, 0x650a7354, 0x766a0abb, 0x81c2c92e, 0x92722c85,
		0xa2bfe8a1, 0xa81a664b, 0xc24b8b70, 0xc76c51a3, 0xd192e819, 0xd6990624, 0xf40e3585, 0x106aa070,
		0x19a4c116, 0x1e376c08, 0x2748774c, 0x34b0bcb5, 0x391c0cb3, 0x4ed8aa4a, 0x5b9cca4f, 0x682e6ff3,
		0x748f82ee, 0x78a5636f, 0x84c87814, 0x8cc70208, 0x90befffa, 0xa4506ceb, 0xbef9a3f7, 0xc67178f2,
	}
}
