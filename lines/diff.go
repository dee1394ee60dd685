package lines

import "marline/api"

// Edit is what is done at a place of a text: Del lines go, Ins comes there.
type Edit struct {
	At, Del int
	Ins     []string
}

// Diff is the edits that make b of a.
func Diff(a, b []string) ([]Edit, api.Errno) {
	pairs, errno := Match(a, b)
	if errno != api.OK {
		return nil, errno
	}
	// The ends stand for a last pair, ahead of which something may be to do, too.
	pairs = append(pairs, Pair{A: len(a), B: len(b)})
	var edits []Edit
	at, from := 0, 0
	for _, p := range pairs {
		if at < p.A || from < p.B {
			ins := append([]string(nil), b[from:p.B]...)
			edits = append(edits, Edit{At: at, Del: p.A - at, Ins: ins})
		}
		at, from = p.A+1, p.B+1
	}
	return edits, api.OK
}

// Patch is a with all edits of l done.
func Patch(a []string, l []Edit) ([]string, api.Errno) {
	// All are looked at first: nothing is gathered for a list of which one may not be.
	if !fit(l, len(a)) {
		return nil, api.ErrRange
	}
	var patched []string
	at := 0
	for _, e := range l {
		patched = append(patched, a[at:e.At]...)
		patched = append(patched, e.Ins...)
		at = e.At + e.Del
	}
	return append(patched, a[at:]...), api.OK
}

// fit tells whether edits can be done on a text of so many lines, one behind the other.
func fit(l []Edit, size int) bool {
	at := 0
	for _, e := range l {
		// Del is held against what is left, less than nothing where At lies beyond
		// the end: At and Del together may be too great a number.
		if e.At < at || e.Del < 0 || e.Del > size-e.At {
			return false
		}
		at = e.At + e.Del
	}
	return true
}
