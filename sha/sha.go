// Package sha: hashes (chapter 1).
package sha

const (
	sumSize = 32 // bytes of a sum
	digits  = "0123456789abcdef"
)

// Sum is the SHA-256 of b.
func Sum(b []byte) []byte {
	h := New()
	h.Write(b)
	return h.Sum()
}

// Hex writes two digits for each byte, the greater one first.
func Hex(b []byte) string {
	text := make([]byte, 0, 2*len(b))
	for _, c := range b {
		text = append(text, digits[c>>4], digits[c&15])
	}
	return string(text)
}

// Unhex is the bytes whose Hex s is; false, if it is no one's.
func Unhex(s string) ([]byte, bool) {
	if !isHex(s) {
		return nil, false
	}
	b := make([]byte, 0, len(s)/2)
	for i := 0; i < len(s); i += 2 {
		high, _ := digitValue(s[i])
		low, _ := digitValue(s[i+1])
		b = append(b, high<<4|low)
	}
	return b, true
}

// ID is the Hex of b's Sum.
func ID(b []byte) string {
	return Hex(Sum(b))
}

// Valid tells whether id is the Hex of as many bytes as a sum has.
func Valid(id string) bool {
	return len(id) == 2*sumSize && isHex(id)
}

func isHex(s string) bool {
	if len(s)%2 != 0 {
		return false
	}
	for i := range len(s) {
		if _, ok := digitValue(s[i]); !ok {
			return false
		}
	}
	return true
}

func digitValue(c byte) (byte, bool) {
	switch {
	case c >= '0' && c <= '9':
		return c - '0', true
	case c >= 'a' && c <= 'f':
		return c - 'a' + 10, true
	}
	return 0, false
}
