package refs_test

import (
	"math/rand"
	"slices"
	"testing"

	"marline/api"
	"marline/fsim"
	"marline/refs"
)

// refNow is what the ref is: a hash, empty if there is none. All else at its
// place, as a part of a hash, is a fault.
func refNow(t *testing.T, f *fsim.FS, name string) string {
	t.Helper()
	file, stands := f.Peek("s/r/" + name)
	if !stands {
		return ""
	}
	if !textForm.Match(file.Data) {
		t.Fatalf("the ref %s has %q", name, file.Data)
	}
	return string(file.Data[:64])
}

// lastSync is the number of a Set's call that is its last Sync.
const lastSync = 5

// wantBeforeOrAfter holds a Set from old to next that has answered errno
// against what may be behind it: now, and behind each fall.
func wantBeforeOrAfter(t *testing.T, f *fsim.FS, calls int, errno api.Errno, old, next string) {
	t.Helper()
	may := []string{old}
	switch {
	case errno == api.OK:
		may = []string{next}
	case errno == api.ErrDown || calls == lastSync:
		may = []string{old, next}
	}
	if now := refNow(t, f, "head"); !slices.Contains(may, now) {
		t.Fatalf("behind %d: the ref is %q, was %q, set to %q", errno, now, old, next)
	}
	for keep := range 5 {
		for _, torn := range []int{-1, 0, 64} {
			fallen := f.Copy()
			fallen.Crash(keep, torn)
			if now := refNow(t, fallen, "head"); !slices.Contains(may, now) {
				t.Fatalf("behind %d and Crash(%d, %d): the ref is %q, was %q, set to %q", errno, keep, torn, now, old, next)
			}
			wantGoesOn(t, fallen)
		}
	}
}

// wantGoesOn holds a fallen file system against what a recovery makes of it.
func wantGoesOn(t *testing.T, f *fsim.FS) {
	t.Helper()
	f.Plan(nil)
	f.Reboot()
	if _, errno := refs.Unlock(f); errno != api.OK {
		t.Fatalf("Unlock: %d", errno)
	}
	last := idOf("last")
	wantSet(t, f, "head", refNow(t, f, "head"), last, api.OK)
	f.Crash(0, 0)
	f.Reboot()
	wantGet(t, f, "head", last, api.OK)
}

// One thing goes wrong ahead of each call of a Set, and one more behind it;
// other changes are pending ahead of it, and users write beside it.
func TestEachFault(t *testing.T) { // P8.5
	next := idOf("next")
	for _, old := range []string{"", idOf("old"), next} {
		for at := 1; at <= 6; at++ {
			for _, first := range faults(at) {
				for _, second := range faults(at + 1) {
					f := newFS(t, 1000)
					if old != "" {
						wantSet(t, f, "head", "", old, api.OK)
					}
					f.Write("s/t", api.Plain, []byte("part"))
					f.Write("w/a", api.Plain, []byte("words"))
					f.Plan(planned(f, []fsim.Event{first, second}))
					calls := f.Calls()
					errno := refs.Set(f, "head", old, next)
					wantBeforeOrAfter(t, f, f.Calls()-calls, errno, old, next)
				}
			}
		}
	}
}

func faults(at int) []fsim.Event {
	l := []fsim.Event{{}, {Kind: fsim.NoRoom}, {Kind: fsim.Broken}, {Kind: fsim.Wrote, Path: "w/b", Mode: api.Plain}}
	for keep := range 5 {
		for _, torn := range []int{-1, 0, 64} {
			l = append(l, fsim.Event{Kind: fsim.Crashed, Keep: keep, Torn: torn})
		}
	}
	for i := range l {
		l[i].At = at
	}
	return l
}

// What a Set that was not to be says is that nothing is changed, whatever
// falls behind it.
func TestFaultsOfAnotherOld(t *testing.T) { // P8.5
	was := idOf("was")
	for _, old := range []string{"", idOf("other")} {
		for at := 1; at <= 4; at++ {
			for _, fault := range faults(at) {
				f := newFS(t, 1000)
				wantSet(t, f, "head", "", was, api.OK)
				f.Plan(planned(f, []fsim.Event{fault}))
				if errno := refs.Set(f, "head", old, idOf("next")); errno == api.OK {
					t.Fatalf("Set of another one is OK")
				}
				wantBeforeOrAfter(t, f, 0, api.ErrLock, was, "")
			}
		}
	}
}

// history is what each ref may be, by what its Sets have said.
type history map[string][]string

func (h history) set(t *testing.T, f *fsim.FS, name, next string) {
	t.Helper()
	old, calls := refNow(t, f, name), f.Calls()
	errno := refs.Set(f, name, old, next)
	switch {
	case errno == api.OK:
		h[name] = []string{next}
	case errno == api.ErrDown || f.Calls() == calls+lastSync:
		h[name] = append(h[name], next)
	}
}

// want holds all refs against what they may be.
func (h history) want(t *testing.T, f *fsim.FS) {
	t.Helper()
	for name, may := range h {
		if now := refNow(t, f, name); !slices.Contains(may, now) {
			t.Fatalf("the ref %s is %q, may be one of %q", name, now, may)
		}
	}
}

// fell makes what each ref is behind a fall all that it may be.
func (h history) fell(t *testing.T, f *fsim.FS) {
	t.Helper()
	h.want(t, f)
	for name := range h {
		h[name] = []string{refNow(t, f, name)}
	}
}

func TestRandomFalls(t *testing.T) { // P8.5
	r := rand.New(rand.NewSource(85))
	for range 1000 {
		f := newFS(t, pick(r, []int{130, 200, 1000}))
		h := history{"head": {""}, "peer": {""}}
		for range 40 {
			switch r.Intn(8) {
			case 0:
				kind := pick(r, []int{fsim.Crashed, fsim.Broken, fsim.Broken, fsim.NoRoom})
				f.Plan(planned(f, []fsim.Event{{At: 1 + r.Intn(6), Kind: kind, Keep: r.Intn(4), Torn: r.Intn(70) - 1}}))
			case 1:
				f.Crash(r.Intn(4), r.Intn(70)-1)
			case 2:
				f.Write("w/a", api.Plain, make([]byte, r.Intn(10)))
			case 3:
				refs.Unlock(f)
			default:
				h.set(t, f, pick(r, []string{"head", "peer"}), pick(r, someHashes()))
			}
			h.want(t, f)
			if !f.Up() {
				h.fell(t, f)
				f.Reboot()
				refs.Unlock(f)
			}
		}
		f.Crash(0, 0)
		h.want(t, f)
	}
}
