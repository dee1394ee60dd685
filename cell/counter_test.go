package cell_test

import (
	"math"
	"math/rand"
	"sync/atomic"
	"testing"

	"marline/cell"
)

// counterAt is a new Counter that stands at n.
func counterAt(n int) *cell.Counter {
	c := cell.NewCounter()
	c.Add(n)
	return c
}

func TestNewCounter(t *testing.T) { // P3.2
	c := cell.NewCounter()
	if c.Get() != 0 || c.Get() != 0 {
		t.Errorf("Get() of a new one = %d", c.Get())
	}
	if c.Take(1) || !c.Take(0) || c.Get() != 0 {
		t.Errorf("taken from a new one: %d", c.Get())
	}
	other := cell.NewCounter()
	c.Add(7)
	if other.Get() != 0 || other.Take(7) {
		t.Errorf("the other one = %d", other.Get())
	}
}

func TestAdd(t *testing.T) { // P3.2
	c := cell.NewCounter()
	for _, step := range []struct{ n, want int }{
		{0, 0}, {1, 1}, {0, 1}, {41, 42}, {-2, 40}, {-40, 0}, {-1, -1}, {-9, -10}, {0, -10}, {1 << 40, 1<<40 - 10}, {10, 1 << 40},
	} {
		if got := c.Add(step.n); got != step.want || c.Get() != step.want {
			t.Errorf("Add(%d) = %d, want %d; Get() = %d", step.n, got, step.want, c.Get())
		}
	}
}

func TestAddWraps(t *testing.T) { // P3.2
	for _, c := range []struct{ at, n, want int }{
		{math.MaxInt64, 0, math.MaxInt64},
		{math.MaxInt64, 1, math.MinInt64},
		{math.MaxInt64, 2, math.MinInt64 + 1},
		{math.MaxInt64, math.MaxInt64, -2},
		{math.MaxInt64, math.MinInt64, -1},
		{math.MinInt64, -1, math.MaxInt64},
		{math.MinInt64, math.MinInt64, 0},
		{math.MinInt64, math.MaxInt64, -1},
		{-1, math.MinInt64, math.MaxInt64},
		{0, math.MinInt64, math.MinInt64},
		{0, math.MaxInt64, math.MaxInt64},
		{1, math.MaxInt64, math.MinInt64},
		{math.MaxInt32, 1, 1 << 31},
		{math.MaxUint32, 1, 1 << 32},
	} {
		counter := counterAt(c.at)
		if got := counter.Add(c.n); got != c.want || counter.Get() != c.want {
			t.Errorf("%d: Add(%d) = %d, want %d; Get() = %d", c.at, c.n, got, c.want, counter.Get())
		}
	}
}

func TestTake(t *testing.T) { // P3.2
	for _, c := range []struct {
		at, n int
		want  bool
	}{
		{0, 0, true}, {0, 1, false}, {0, -1, false}, {1, 0, true}, {1, 1, true}, {1, 2, false}, {1, -1, false},
		{5, 4, true}, {5, 5, true}, {5, 6, false}, {5, -5, false}, {5, math.MaxInt64, false}, {5, math.MinInt64, false},
		{-1, 0, false}, {-1, -1, false}, {-1, 1, false}, {-5, -6, false}, {-5, math.MaxInt64, false}, {-5, math.MinInt64, false},
		{math.MaxInt64, 0, true}, {math.MaxInt64, 1, true}, {math.MaxInt64, math.MaxInt64, true}, {math.MaxInt64, math.MaxInt64 - 1, true},
		{math.MaxInt64, -1, false}, {math.MaxInt64, math.MinInt64, false}, {math.MaxInt64 - 1, math.MaxInt64, false},
		{math.MinInt64, 0, false}, {math.MinInt64, 1, false}, {math.MinInt64, math.MaxInt64, false}, {math.MinInt64, math.MinInt64, false},
		{1 << 32, 1, true}, {1 << 32, 1 << 32, true}, {1, 1 << 32, false}, {1, 1<<32 + 1, false},
	} {
		counter := counterAt(c.at)
		got, left := counter.Take(c.n), c.at
		if c.want {
			left -= c.n
		}
		if got != c.want || counter.Get() != left {
			t.Errorf("%d: Take(%d) = %v, want %v; Get() = %d, want %d", c.at, c.n, got, c.want, counter.Get(), left)
		}
	}
}

func TestTakeUntilNothingIsLeft(t *testing.T) { // P3.2, P3.4
	c, took := counterAt(100), 0
	for range 50 {
		if c.Take(7) {
			took += 7
		}
	}
	if took != 98 || c.Get() != 2 || c.Take(3) || !c.Take(2) || c.Take(1) || c.Get() != 0 {
		t.Errorf("%d were taken, %d are left", took, c.Get())
	}
}

// The wanted number is worked out on an int64 beside the Counter.
func TestCounterStepByStep(t *testing.T) { // P3.2, P3.4
	r := rand.New(rand.NewSource(3))
	for range 300 {
		c, want := cell.NewCounter(), int64(0)
		scale := 1 << r.Intn(62)
		for range 100 {
			n := r.Intn(2*scale+1) - scale
			if r.Intn(2) == 0 {
				want += int64(n)
				if got := c.Add(n); int64(got) != want {
					t.Fatalf("Add(%d) = %d, want %d", n, got, want)
				}
			} else {
				may := n >= 0 && int64(n) <= want
				if may {
					want -= int64(n)
				}
				if got := c.Take(n); got != may {
					t.Fatalf("Take(%d) = %v, %d behind it", n, got, want)
				}
			}
			if int64(c.Get()) != want {
				t.Fatalf("Get() = %d, want %d", c.Get(), want)
			}
		}
	}
}

func TestAddedAtOnce(t *testing.T) { // P3.2
	const many, each = 8, 50000
	c := cell.NewCounter()
	together(many, func(i int) {
		for range each {
			c.Add(i + 1)
			c.Add(-i)
		}
	})
	if c.Get() != many*each {
		t.Errorf("Get() = %d, want %d", c.Get(), many*each)
	}
}

// There is enough for all who take at once: nobody goes without.
func TestTakenAtOnce(t *testing.T) { // P3.2
	const many, each, size = 8, 50000, 3
	c := counterAt(many*each*size + 2)
	var missed [many]int
	together(many, func(i int) {
		for range each {
			if !c.Take(size) {
				missed[i]++
			}
		}
	})
	for i := range many {
		if missed[i] > 0 {
			t.Errorf("%d went without, though there was enough", missed[i])
		}
	}
	if c.Get() != 2 || c.Take(size) {
		t.Errorf("%d are left", c.Get())
	}
}

// There is one for all who take at once: nobody has it while another one has.
func TestTakenByOneAlone(t *testing.T) { // P3.4
	const many, each = 8, 200000
	c := counterAt(1)
	var holders atomic.Int64
	var doubled, below [many]int
	together(many, func(i int) {
		for range each {
			if c.Take(1) {
				if holders.Add(1) != 1 {
					doubled[i]++
				}
				holders.Add(-1)
				c.Add(1)
			}
			if c.Get() < 0 {
				below[i]++
			}
		}
	})
	for i := range many {
		if doubled[i] > 0 || below[i] > 0 {
			t.Errorf("taken twice for %d times, below 0 for %d times", doubled[i], below[i])
		}
	}
	if c.Get() != 1 {
		t.Errorf("%d are left", c.Get())
	}
}

func TestAddedAndTakenAtOnce(t *testing.T) { // P3.4
	const many, each = 8, 50000
	c := cell.NewCounter()
	var added, took [many]int
	together(many, func(i int) {
		for j := range each {
			n := 1 + (i+j)%5
			if i%2 == 0 {
				c.Add(n)
				added[i] += n
			} else if c.Take(n) {
				took[i] += n
			}
		}
	})
	left := 0
	for i := range many {
		left += added[i] - took[i]
	}
	if left < 0 || c.Get() != left {
		t.Errorf("Get() = %d, want %d", c.Get(), left)
	}
}
