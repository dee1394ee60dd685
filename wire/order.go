package wire

// Compare is -1, 0 or 1, as a stands before, at or behind b, by bytes.
func Compare(a, b string) int {
	switch {
	case a < b:
		return -1
	case a > b:
		return 1
	}
	return 0
}

// Sort is the texts of l, rising.
func Sort(l []string) []string {
	runs := make([]string, len(l))
	copy(runs, l)
	merged := make([]string, len(l))
	for size := 1; size < len(l); size *= 2 {
		mergePairs(merged, runs, size)
		runs, merged = merged, runs
	}
	return runs
}

// mergePairs merges the rising runs of that size that stand side by side in
// from; the last one may be shorter, or alone.
func mergePairs(to, from []string, size int) {
	for start := 0; start < len(from); start += 2 * size {
		middle := min(start+size, len(from))
		end := min(middle+size, len(from))
		mergeRuns(to[start:end], from[start:middle], from[middle:end])
	}
}

func mergeRuns(to, a, b []string) {
	for i := range to {
		if len(b) == 0 || len(a) > 0 && a[0] <= b[0] {
			to[i], a = a[0], a[1:]
		} else {
			to[i], b = b[0], b[1:]
		}
	}
}

// Unique is the texts of l, rising, each once.
func Unique(l []string) []string {
	sorted := Sort(l)
	var once []string
	for i, s := range sorted {
		if i == 0 || s != sorted[i-1] {
			once = append(once, s)
		}
	}
	return once
}

// Merge is the texts of a and b, rising, each once.
func Merge(a, b []string) []string {
	both := make([]string, 0, len(a)+len(b))
	both = append(both, a...)
	both = append(both, b...)
	return Unique(both)
}

// Has tells whether s is one of l, in whatever order they are.
func Has(l []string, s string) bool {
	for _, t := range l {
		if t == s {
			return true
		}
	}
	return false
}
