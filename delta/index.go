package delta

const (
	leastCopy = 8  // bytes of a piece that is copied
	none      = -1 // in an index: no place
)

// An index finds the places of a base where a piece may stand without going
// over all of it. The places whose first bytes fall on one slot hang one
// behind the other, rising.
type index struct {
	base  []byte
	first []int // of each slot
	next  []int // of each place
}

func indexOf(base []byte) index {
	x := index{base: base, first: make([]int, len(base)+1), next: make([]int, len(base))}
	for slot := range x.first {
		x.first[slot] = none
	}
	for at := len(base) - leastCopy; at >= 0; at-- {
		slot := x.slot(base[at:])
		x.next[at] = x.first[slot]
		x.first[slot] = at
	}
	return x
}

// slot spreads the first bytes of a piece by FNV-1a. Unlike pieces may fall on
// one slot.
func (x index) slot(piece []byte) int {
	const start, prime = 0xCBF29CE484222325, 0x100000001B3
	spread := uint64(start)
	for _, c := range piece[:leastCopy] {
		spread = (spread ^ uint64(c)) * prime
	}
	return int(spread % uint64(len(x.first)))
}

// match is the least place of the longest piece that wanted begins with, and
// its size; size 0, if none is long enough to be copied.
func (x index) match(wanted []byte) (int, int) {
	if len(wanted) < leastCopy {
		return 0, 0
	}
	place, size := 0, 0
	for at := x.first[x.slot(wanted)]; at != none; at = x.next[at] {
		longest := min(len(x.base)-at, len(wanted))
		if longest <= size { // so it is for the places behind, too
			break
		}
		if x.base[at+size] != wanted[size] {
			continue
		}
		if n := common(x.base[at:], wanted); n >= leastCopy && n > size {
			place, size = at, n
		}
	}
	return place, size
}

// common is how many bytes a and b have in common at their beginnings.
func common(a, b []byte) int {
	shorter := min(len(a), len(b))
	for i := range shorter {
		if a[i] != b[i] {
			return i
		}
	}
	return shorter
}
