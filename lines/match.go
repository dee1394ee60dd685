package lines

import "marline/api"

// Pair is the places of two lines that are the same.
type Pair struct {
	A, B int
}

// Match is the pairs of a longest common subsequence of a and b.
func Match(a, b []string) ([]Pair, api.Errno) {
	if len(a) > api.MaxLines || len(b) > api.MaxLines {
		return nil, api.ErrLimit
	}
	longest := longestFrom(a, b)
	var pairs []Pair
	i, j := 0, 0
	for i < len(a) && j < len(b) {
		switch {
		case a[i] == b[j]:
			pairs = append(pairs, Pair{A: i, B: j})
			i++
			j++
		case longest[i+1][j] >= longest[i][j+1]:
			i++
		default:
			j++
		}
	}
	return pairs, api.OK
}

// longestFrom is a table: in row i, at place j, the length of a longest common
// subsequence of a from i on and b from j on. It has a row and a place more
// than there are lines: behind the ends there is nothing in common.
func longestFrom(a, b []string) [][]int {
	longest := make([][]int, len(a)+1)
	longest[len(a)] = make([]int, len(b)+1)
	for i := len(a) - 1; i >= 0; i-- {
		longest[i] = make([]int, len(b)+1)
		for j := len(b) - 1; j >= 0; j-- {
			if a[i] == b[j] {
				longest[i][j] = longest[i+1][j+1] + 1
			} else {
				longest[i][j] = max(longest[i+1][j], longest[i][j+1])
			}
		}
	}
	return longest
}
