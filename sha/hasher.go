package sha

import "sync"

// Hasher takes bytes piece by piece.
type Hasher struct {
	state [8]uint32
	rest  [blockSize]byte // begins with the bytes that don't fill a block yet
	size  int             // bytes written

	once  sync.Once
	added [64]uint32 // read by constants alone
}

// New is a Hasher that was given nothing yet.
func New() *Hasher {
	return &Hasher{state: squareRoots()}
}

// Write takes b as the next piece.
func (h *Hasher) Write(b []byte) {
	added := h.constants()
	begun := h.size % blockSize
	h.size += len(b)
	if begun > 0 {
		taken := copy(h.rest[begun:], b)
		if begun+taken < blockSize {
			return
		}
		h.state = fold(h.state, h.rest[:], added)
		b = b[taken:]
	}
	for len(b) >= blockSize {
		h.state = fold(h.state, b[:blockSize], added)
		b = b[blockSize:]
	}
	copy(h.rest[:], b)
}

// Sum is the Sum of all pieces, one behind the other. It leaves h as it is,
// so that more may be written.
func (h *Hasher) Sum() []byte {
	added := h.constants()
	state := h.state
	for last := h.padded(); len(last) > 0; last = last[blockSize:] {
		state = fold(state, last[:blockSize], added)
	}
	sum := make([]byte, 0, sumSize)
	for _, word := range state {
		sum = append(sum, byte(word>>24), byte(word>>16), byte(word>>8), byte(word))
	}
	return sum
}

// Len is how many bytes were written.
func (h *Hasher) Len() int {
	return h.size
}

// Copy is a Hasher of its own that was given the same bytes.
func (h *Hasher) Copy() *Hasher {
	// A sync.Once may not be copied: the copy makes its constants itself.
	return &Hasher{state: h.state, rest: h.rest, size: h.size}
}

func (h *Hasher) constants() *[64]uint32 {
	h.once.Do(func() { h.added = cubeRoots() })
	return &h.added
}

// padded is the last block, or the last two: the bytes that don't fill one,
// a bit that is set, and the number of all bits in the last eight bytes.
func (h *Hasher) padded() []byte {
	last := make([]byte, 0, 2*blockSize)
	last = append(last, h.rest[:h.size%blockSize]...)
	last = append(last, 0x80)
	for len(last)%blockSize != blockSize-8 {
		last = append(last, 0)
	}
	length := uint64(h.size) * 8
	for shift := 56; shift >= 0; shift -= 8 {
		last = append(last, byte(length>>shift))
	}
	return last
}
