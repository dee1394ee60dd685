package store_test

import (
	"crypto/sha256"
	"encoding/hex"
	"fmt"
	"regexp"
	"slices"
	"strings"
	"testing"

	"marline/api"
	"marline/fsim"
	"marline/obj"
	"marline/store"
)

// system is what a store and its model can both do.
type system interface {
	Put(b []byte) (string, api.Errno)
	PutObj(o obj.Obj) (string, api.Errno)
	Get(id string) ([]byte, api.Errno)
	GetObj(id string) (obj.Obj, api.Errno)
	Has(id string) bool
	List() ([]string, api.Errno)
	Drop(id string) api.Errno
	Clean() api.Errno
	Reads() int
}

// model says the chapter's words in another way, call by call, over a file
// system of its own. It knows nothing of unlike bytes of one hash.
type model struct {
	f     *fsim.FS
	reads int
}

func hashOf(b []byte) string {
	sum := sha256.Sum256(b)
	return hex.EncodeToString(sum[:])
}

var hashes = regexp.MustCompile(`\A[0-9a-f]{64}\z`)

func isHash(id string) bool { return hashes.MatchString(id) }

func (m *model) read(id string) (string, api.Errno) {
	m.reads++
	file, errno := m.f.Read("s/o/" + id)
	return string(file.Data), errno
}

func (m *model) Put(b []byte) (string, api.Errno) {
	if len(b) > 20000 {
		return "", api.ErrLong
	}
	id := hashOf(b)
	calls := []func() api.Errno{
		func() api.Errno { return m.f.Write("s/t", 1, b) },
		func() api.Errno { return m.f.Move("s/t", "s/o/"+id) },
	}
	there, errno := m.read(id)
	if errno == api.OK && there == string(b) {
		calls = nil
	} else if errno != api.OK && errno != api.ErrNone {
		return "", errno
	}
	for _, call := range calls {
		if errno := call(); errno != api.OK {
			return "", errno
		}
	}
	return id, api.OK
}

func (m *model) PutObj(o obj.Obj) (string, api.Errno) {
	b, errno := obj.Encode(o)
	if errno != api.OK {
		return "", errno
	}
	return m.Put(b)
}

func (m *model) Get(id string) ([]byte, api.Errno) {
	if !isHash(id) {
		return nil, api.ErrName
	}
	there, errno := m.read(id)
	if errno == api.OK && hashOf([]byte(there)) != id {
		errno = api.ErrSum
	}
	if errno != api.OK {
		return nil, errno
	}
	return []byte(there), api.OK
}

func (m *model) GetObj(id string) (obj.Obj, api.Errno) {
	b, errno := m.Get(id)
	if errno != api.OK {
		return obj.Obj{}, errno
	}
	return obj.Decode(b)
}

func (m *model) Has(id string) bool {
	_, errno := m.Get(id)
	return errno == api.OK
}

func (m *model) List() ([]string, api.Errno) {
	paths, errno := m.f.List("s/o")
	var ids []string
	for _, path := range paths {
		if l := strings.Split(path, "/"); len(l) == 3 && isHash(l[2]) {
			ids = append(ids, l[2])
		}
	}
	slices.Sort(ids)
	return ids, errno
}

func (m *model) Drop(id string) api.Errno {
	if !isHash(id) {
		return api.ErrName
	}
	return m.f.Remove("s/o/" + id)
}

func (m *model) Clean() api.Errno {
	if errno := m.f.Remove("s/t"); errno != api.ErrNone {
		return errno
	}
	return api.OK
}

func (m *model) Reads() int { return m.reads }

// told is all that a file system tells of itself.
func told(f *fsim.FS) string {
	text := fmt.Sprintf("up %v, %d calls, %d changes, %d bytes, %d pending; files%s; user", f.Up(), f.Calls(), f.Now(), f.Used(), f.Pending(), filesOf(f))
	for _, e := range f.User() {
		text += fmt.Sprintf(" %d:%d %s", e.At, e.Kind, e.Path)
	}
	return text
}

// filesOf is what stands in f: paths, modes, data, times.
func filesOf(f *fsim.FS) string {
	text := ""
	for _, path := range f.Paths() {
		file, _ := f.Peek(path)
		text += fmt.Sprintf(" %s:%d%q@%d", path, file.Mode, dataText(file.Data), file.Time)
	}
	return text
}

// dataText is b, or of many bytes how many and their hash.
func dataText(b []byte) string {
	if len(b) > 300 {
		return fmt.Sprintf("%d bytes of %s", len(b), hashOf(b))
	}
	return string(b)
}

// pair is a store and its model over like file systems, and all that was done
// to them.
type pair struct {
	t            *testing.T
	f, modelF    *fsim.FS
	store, model system
	done         []string
}

func newPair(t *testing.T, f *fsim.FS) *pair {
	c := f.Copy()
	return &pair{t: t, f: f, modelF: c, store: store.Open(f), model: &model{f: c}}
}

// files does something to the file systems, beside the stores.
func (p *pair) files(name string, do func(f *fsim.FS)) {
	p.t.Helper()
	p.done = append(p.done, name)
	do(p.f)
	do(p.modelF)
	p.compare()
}

// act does something to the stores; it tells what that answered.
func (p *pair) act(name string, do func(s system) string) {
	p.t.Helper()
	p.done = append(p.done, name)
	got, want := do(p.store), do(p.model)
	if got != want {
		p.t.Fatalf("%s answered %s, want %s", strings.Join(p.done, ", "), got, want)
	}
	p.compare()
}

func (p *pair) compare() {
	p.t.Helper()
	if p.store.Reads() != p.model.Reads() {
		p.t.Fatalf("behind %s: %d reads, want %d", strings.Join(p.done, ", "), p.store.Reads(), p.model.Reads())
	}
	if got, want := told(p.f), told(p.modelF); got != want {
		p.t.Fatalf("behind %s:\n%s, want\n%s", strings.Join(p.done, ", "), got, want)
	}
}

func (p *pair) put(b []byte) {
	p.t.Helper()
	p.act("Put("+dataText(b)+")", func(s system) string { return fmt.Sprint(s.Put(b)) })
}

func (p *pair) putObj(o obj.Obj) {
	p.t.Helper()
	p.act(fmt.Sprintf("PutObj(of kind %d)", o.Kind), func(s system) string { return fmt.Sprint(s.PutObj(o)) })
}

func (p *pair) get(id string) {
	p.t.Helper()
	p.act("Get("+id+")", func(s system) string {
		b, errno := s.Get(id)
		return fmt.Sprint(string(b), errno)
	})
}

func (p *pair) getObj(id string) {
	p.t.Helper()
	p.act("GetObj("+id+")", func(s system) string {
		o, errno := s.GetObj(id)
		return fmt.Sprintf("%+v %d", o, errno)
	})
}

func (p *pair) has(id string) {
	p.t.Helper()
	p.act("Has("+id+")", func(s system) string { return fmt.Sprint(s.Has(id)) })
}

func (p *pair) list() {
	p.t.Helper()
	p.act("List()", func(s system) string { return fmt.Sprint(s.List()) })
}

func (p *pair) drop(id string) {
	p.t.Helper()
	p.act("Drop("+id+")", func(s system) string { return fmt.Sprint(s.Drop(id)) })
}

func (p *pair) clean() {
	p.t.Helper()
	p.act("Clean()", func(s system) string { return fmt.Sprint(s.Clean()) })
}
