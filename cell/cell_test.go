package cell_test

import (
	"math/rand"
	"strconv"
	"strings"
	"sync/atomic"
	"testing"

	"marline/cell"
)

func TestNewCell(t *testing.T) { // P3.3
	for _, s := range []string{"", "a", "\x00", "\xff\xff", "é", strings.Repeat("x", 20000)} {
		c, other := cell.NewCell(s), cell.NewCell(s)
		if c.Get() != s || c.Get() != s {
			t.Errorf("Get() of a new one = %q, want %q", c.Get(), s)
		}
		c.Set("b")
		if other.Get() != s {
			t.Errorf("the other one = %q, want %q", other.Get(), s)
		}
	}
}

func TestSet(t *testing.T) { // P3.3
	c, had := cell.NewCell("a"), "a"
	for _, s := range []string{"b", "b", "", "", "\x00", "é", "a", strings.Repeat("x", 20000), "c"} {
		if got := c.Set(s); got != had || c.Get() != s {
			t.Errorf("Set(%q) = %q, want %q; Get() = %q", s, got, had, c.Get())
		}
		had = s
	}
}

func TestSwap(t *testing.T) { // P3.3
	c := cell.NewCell("a")
	if c.Swap("b", "c") || c.Get() != "a" || !c.Swap("a", "c") || c.Get() != "c" {
		t.Errorf("the document's example: %q", c.Get())
	}
	texts := []string{"", "a", "b", "A", "aa", "a\x00", "\x00", " a", "\xff", "é", "e\u0301", strings.Repeat("x", 5000) + "a", strings.Repeat("x", 5000) + "b"}
	for _, has := range texts {
		for _, old := range texts {
			for _, to := range texts {
				c, want := cell.NewCell(has), has
				if has == old {
					want = to
				}
				if got := c.Swap(old, to); got != (has == old) || c.Get() != want {
					t.Errorf("%q: Swap(%q, %q) = %v, has %q then", has, old, to, got, c.Get())
				}
			}
		}
	}
}

// It is the bytes that count, not the memory that they lie in.
func TestSwapOfTextsInOtherMemory(t *testing.T) { // P3.3
	for _, s := range []string{"a", "a text of many bytes"} {
		c := cell.NewCell(strings.Clone(s))
		if !c.Swap(strings.Clone(s), strings.Clone(s)) || !c.Swap(string([]byte(s)), "b") || c.Get() != "b" {
			t.Errorf("%q is not found, but %q", s, c.Get())
		}
	}
}

// The wanted text stands beside the Cell.
func TestCellStepByStep(t *testing.T) { // P3.3
	r := rand.New(rand.NewSource(4))
	texts := []string{"", "a", "b", "aa"}
	for range 300 {
		want := texts[r.Intn(4)]
		c := cell.NewCell(want)
		for range 100 {
			a, b := texts[r.Intn(4)], texts[r.Intn(4)]
			if r.Intn(3) == 0 {
				if got := c.Set(a); got != want {
					t.Fatalf("Set(%q) = %q, want %q", a, got, want)
				}
				want = a
			} else {
				had := want == a
				if had {
					want = b
				}
				if got := c.Swap(a, b); got != had {
					t.Fatalf("Swap(%q, %q) = %v, want %v", a, b, got, had)
				}
			}
			if c.Get() != want {
				t.Fatalf("Get() = %q, want %q", c.Get(), want)
			}
		}
	}
}

// Of all who swap one text at once, one alone does it.
func TestSwappedAtOnce(t *testing.T) { // P3.3
	const many = 8
	for range 500 {
		c := cell.NewCell("free")
		var got [many]bool
		together(many, func(i int) { got[i] = c.Swap("free", strconv.Itoa(i)) })
		for i := range many {
			if got[i] != (c.Get() == strconv.Itoa(i)) {
				t.Errorf("%d: Swap = %v, but %q is there", i, got[i], c.Get())
			}
		}
	}
}

// Who swaps the text away has it alone until it is there again.
func TestSwappedByOneAlone(t *testing.T) { // P3.3
	const many, each = 8, 50000
	c := cell.NewCell("free")
	var holders atomic.Int64
	var doubled [many]int
	together(many, func(i int) {
		own := strconv.Itoa(i)
		for range each {
			if c.Swap("free", own) {
				if holders.Add(1) != 1 {
					doubled[i]++
				}
				holders.Add(-1)
				if !c.Swap(own, "free") {
					doubled[i]++
				}
			}
		}
	})
	for i := range many {
		if doubled[i] > 0 {
			t.Errorf("swapped by two for %d times", doubled[i])
		}
	}
	if c.Get() != "free" {
		t.Errorf("Get() = %q", c.Get())
	}
}

// Numbers are counted up by swaps: no step is lost, none counts twice. Who
// misses was overtaken by a step of another one: there are so many at most.
func TestSwapsOneBehindTheOther(t *testing.T) { // P3.3
	const many, each = 8, 10000
	c := cell.NewCell("0")
	together(many, func(i int) {
		done := 0
		for tried := 0; tried < many*each && done < each; tried++ {
			seen := c.Get()
			n, _ := strconv.Atoi(seen)
			if c.Swap(seen, strconv.Itoa(n+1)) {
				done++
			}
		}
	})
	if c.Get() != strconv.Itoa(many*each) {
		t.Errorf("Get() = %q, want %d", c.Get(), many*each)
	}
}

// A Cell has one text all the while, though others set it anew: a swap of it
// finds it each time.
func TestSwapOfWhatIsSetAnew(t *testing.T) { // P3.3
	const many, each = 8, 20000
	c := cell.NewCell("a")
	var missed [many]int
	together(many, func(i int) {
		for range each {
			if c.Set("a") != "a" || c.Get() != "a" || !c.Swap("a", "a") || c.Swap("b", "c") {
				missed[i]++
			}
		}
	})
	for i := range many {
		if missed[i] > 0 {
			t.Errorf("%d times another text than the one that it has", missed[i])
		}
	}
}

// Each text that is set is answered once to another one, or stays at last.
func TestSetAtOnce(t *testing.T) { // P3.3
	const many, each = 8, 10000
	c := cell.NewCell("0")
	var had [many][each]string
	together(many, func(i int) {
		for j := range each {
			had[i][j] = c.Set(strconv.Itoa(1 + i*each + j))
		}
	})
	var times [1 + many*each]int
	count := func(s string) {
		n, _ := strconv.Atoi(s)
		times[n]++
	}
	count(c.Get())
	for i := range many {
		for _, s := range had[i] {
			count(s)
		}
	}
	for n := range times {
		if times[n] != 1 {
			t.Errorf("%d was answered for %d times", n, times[n])
		}
	}
}
