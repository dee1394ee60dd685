package store_test

import (
	"math/rand"
	"slices"
	"strings"
	"testing"

	"marline/api"
	"marline/fsim"
	"marline/obj"
	"marline/sha"
	"marline/store"
)

// wantWhole holds all that lies under s against what may lie there: whole
// bytes of a hash at its place, and at most a part of one of the texts in s/t.
func wantWhole(t *testing.T, f *fsim.FS, texts [][]byte) {
	t.Helper()
	for _, path := range f.Paths() {
		file, _ := f.Peek(path)
		id, isPlace := strings.CutPrefix(path, "s/o/")
		switch {
		case path == "s/t":
			if !slices.ContainsFunc(texts, func(b []byte) bool { return strings.HasPrefix(string(b), string(file.Data)) }) {
				t.Fatalf("s/t has %q", dataText(file.Data))
			}
		case !isPlace || id != hashOf(file.Data):
			t.Fatalf("%s has %q", path, dataText(file.Data))
		}
	}
}

// wantJust holds what a store lists and has against the texts that it must
// have, once each.
func wantJust(t *testing.T, s *store.Store, texts [][]byte) {
	t.Helper()
	var want []string
	for _, b := range texts {
		want = append(want, hashOf(b))
		wantGet(t, s, hashOf(b), b, api.OK)
	}
	slices.Sort(want)
	want = slices.Compact(want)
	if l, errno := s.List(); !slices.Equal(l, want) || errno != api.OK {
		t.Fatalf("List() = %q, %d, want %q", l, errno, want)
	}
}

func TestWhatIsPutIsGotAndThereOnce(t *testing.T) { // P7.6
	f, s := newStore(t, 1<<20)
	var texts [][]byte
	for range 3 {
		for _, b := range someBytes() {
			if len(b) <= api.MaxObj {
				wantPut(t, s, b, api.OK)
				texts = append(texts, b)
			}
			wantJust(t, s, texts)
		}
	}
	if len(f.Paths()) != len(someBytes())-1 {
		t.Errorf("files%s", filesOf(f))
	}
	f.Sync()
	f.Crash(0, 0)
	f.Reboot()
	wantJust(t, s, texts)
}

func TestExample(t *testing.T) { // P7.6
	f, s := newStore(t, 100)
	wantPut(t, s, []byte("x"), api.OK)
	wantPut(t, s, []byte("x"), api.OK)
	wantJust(t, s, [][]byte{[]byte("x")})
	wantFiles(t, f, " s/o/2d711642b726b04401627ca9fbac32f5c8530fb1903cc4db02258717921a4881"+`:1"x"@1`)
}

// Three objects are put, one of them again over a part that an earlier fall
// has left; it falls ahead of each call, with each part of what is pending.
func TestEachFall(t *testing.T) { // P7.6
	texts := [][]byte{[]byte("first"), []byte("\x02\x00"), nil, []byte("the last one"), []byte("first")}
	for at := 1; at <= 15; at++ {
		for keep := 0; keep <= 9; keep++ {
			for torn := -1; torn <= 12; torn++ {
				f, s := newStore(t, 1000)
				s.PutObj(obj.Obj{Kind: obj.Blob, Data: []byte("ahead")})
				f.Write("s/t", api.Plain, []byte("fir"))
				f.Sync()
				f.Plan([]fsim.Event{{At: f.Calls() + at, Kind: fsim.Crashed, Keep: keep, Torn: torn}})
				for _, b := range texts {
					s.Put(b)
				}
				f.Crash(keep, torn)
				wantWhole(t, f, texts)
				f.Plan(nil)
				f.Reboot()
				wantGet(t, s, sha.ID([]byte("\x01ahead")), []byte("\x01ahead"), api.OK)
				l, _ := s.List()
				if errno := s.Clean(); errno != api.OK || len(f.Paths()) != len(l) {
					t.Fatalf("Clean() = %d, files%s", errno, filesOf(f))
				}
				for _, b := range texts {
					wantPut(t, s, b, api.OK)
				}
				wantJust(t, s, append([][]byte{[]byte("\x01ahead")}, texts...))
			}
		}
	}
}

// Whatever goes wrong by a plan, but no user's writing: what was put and
// synced stays, and no place gets unlike bytes.
func TestRandomFalls(t *testing.T) { // P7.6
	r := rand.New(rand.NewSource(72))
	texts := someBytes()
	for range 500 {
		f, s := newStore(t, pick(r, []int{10, 200, 30000, 1 << 20}))
		var synced, put [][]byte
		for range 40 {
			switch r.Intn(12) {
			case 0:
				if f.Sync() == api.OK {
					synced = slices.Concat(synced, put)
					put = nil
				}
			case 1:
				f.Crash(r.Intn(9), r.Intn(9)-1)
				f.Reboot()
				put = nil
			case 2:
				f.Plan(planned(f, []fsim.Event{{At: 1 + r.Intn(9), Kind: pick(r, []int{fsim.Broken, fsim.NoRoom})}}))
			case 3:
				s.Clean()
			default:
				b := pick(r, texts)
				if id, errno := s.Put(b); errno == api.OK {
					put = append(put, b)
					if got, errno := s.Get(id); errno == api.OK && string(got) != string(b) {
						t.Fatalf("put %q, got %q", dataText(b), dataText(got))
					}
				}
			}
			wantWhole(t, f, texts)
		}
		f.Plan(nil)
		f.Crash(0, 0)
		f.Reboot()
		for _, b := range synced {
			wantGet(t, s, hashOf(b), b, api.OK)
		}
	}
}
