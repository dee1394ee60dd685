package delta_test

import (
	"bytes"
	"math/rand"
	"testing"

	"marline/api"
	"marline/delta"
)

func TestApplyOfMakeIsTheTarget(t *testing.T) { // P9.4
	r := rand.New(rand.NewSource(5))
	texts := someTexts(r, 5000)
	for _, letters := range []int{1, 2, 256} {
		base := randomBytes(r, 20000, letters)
		texts = append(texts, [2][]byte{base, base}, [2][]byte{base, randomBytes(r, 20000, letters)}, [2][]byte{nil, base}, [2][]byte{base, nil})
	}
	for i := range texts {
		other := texts[(i+1)%len(texts)]
		texts = append(texts, [2][]byte{other[0], texts[i][1]})
	}
	for _, c := range texts {
		base, target := c[0], c[1]
		d := delta.Make(base, target)
		if got, errno := delta.Apply(base, d); errno != api.OK || !bytes.Equal(got, target) {
			t.Fatalf("%d bytes of %d: %d, %d bytes", len(target), len(base), errno, len(got))
		}
		if from, to, errno := delta.Sizes(d); from != len(base) || to != len(target) || errno != api.OK {
			t.Fatalf("%d bytes of %d: Sizes = %d, %d, %d", len(target), len(base), from, to, errno)
		}
	}
}

func checkCut(t *testing.T, base, d []byte) {
	t.Helper()
	if _, errno := delta.Apply(base, d); errno != api.OK {
		t.Fatalf("Apply of % .60x: %d", d, errno)
	}
	for n := range d {
		if got, errno := delta.Apply(base, d[:n]); errno != api.ErrShort || len(got) > 0 {
			t.Fatalf("% .60x, cut off at %d: %d bytes, %d", d, n, len(got), errno)
		}
	}
}

func TestWhatIsCutOffIsRefused(t *testing.T) { // P9.4
	r := rand.New(rand.NewSource(6))
	for _, c := range someTexts(r, 2000) {
		checkCut(t, c[0], delta.Make(c[0], c[1]))
	}
	base := unlike(20000, 3)
	for _, d := range [][]byte{
		deltaOf(20000, 3, copyOf(0, 1), copyOf(19999, 1), copyOf(16384, 1)),
		deltaOf(20000, 3, insertOf("x"), insertOf("y"), insertOf("z")),
		deltaOf(20000, 300, insertOf(string(base[:128])), copyOf(300, 172)),
		deltaOf(20000, 20000, copyOf(0, 20000)),
		deltaOf(20000, 0),
	} {
		checkCut(t, base, d)
	}
}
