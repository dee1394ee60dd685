package cell

import "sync/atomic"

// Counter is a number that is added to and taken from.
type Counter struct {
	number atomic.Int64
}

// NewCounter is a Counter at 0.
func NewCounter() *Counter {
	return &Counter{}
}

// Add adds n and answers what the number is then; it wraps as int64 do.
func (c *Counter) Add(n int) int {
	return int(c.number.Add(int64(n)))
}

// Get is what the number is.
func (c *Counter) Get() int {
	return int(c.number.Load())
}

// Take takes n off, if that is not below 0 and all of it is there.
func (c *Counter) Take(n int) bool {
	taken := int64(n)
	if taken < 0 {
		return false
	}
	for {
		// What was seen may be gone when it is taken: then it counts for nothing.
		seen := c.number.Load()
		if taken > seen {
			return false
		}
		if c.number.CompareAndSwap(seen, seen-taken) {
			return true
		}
	}
}
