package refs_test

import (
	"fmt"
	"regexp"
	"slices"
	"strings"
	"testing"

	"marline/api"
	"marline/fsim"
	"marline/refs"
)

// system is what refs and their model can both do.
type system struct {
	get    func(f *fsim.FS, name string) (string, api.Errno)
	set    func(f *fsim.FS, name, old, new string) api.Errno
	delete func(f *fsim.FS, name, old string) api.Errno
	list   func(f *fsim.FS) ([]string, api.Errno)
	unlock func(f *fsim.FS) (int, api.Errno)
}

var (
	built = system{refs.Get, refs.Set, refs.Delete, refs.List, refs.Unlock}
	// model says the chapter's words in another way, call by call.
	model = system{modelGet, modelSet, modelDelete, modelList, modelUnlock}
)

var (
	nameForm = regexp.MustCompile(`\A[!-.0-~]{1,64}\z`)
	hashForm = regexp.MustCompile(`\A[0-9a-f]{64}\z`)
	textForm = regexp.MustCompile(`\A[0-9a-f]{64}\n\z`)
)

func isName(s string) bool { return nameForm.MatchString(s) && s != "." && s != ".." }

func isHash(s string) bool { return hashForm.MatchString(s) }

func modelGet(f *fsim.FS, name string) (string, api.Errno) {
	if !isName(name) {
		return "", api.ErrName
	}
	file, errno := f.Read("s/r/" + name)
	if errno == api.OK && !textForm.Match(file.Data) {
		errno = api.ErrForm
	}
	if errno != api.OK {
		return "", errno
	}
	return string(file.Data)[:64], api.OK
}

func modelSet(f *fsim.FS, name, old, new string) api.Errno {
	lock, ref := "s/l/"+name, "s/r/"+name
	if !isName(name) {
		return api.ErrName
	}
	if !isHash(new) || !isHash(old) && len(old) > 0 {
		return api.ErrRange
	}
	if errno := f.Create(lock, 1, []byte(new+"\n")); errno != api.OK {
		if errno == api.ErrExists {
			errno = api.ErrLock
		}
		return errno
	}
	file, errno := f.Read(ref)
	fits := errno == api.OK && string(file.Data) == old+"\n"
	if old == "" {
		fits = errno == api.ErrNone
	}
	if !fits {
		f.Remove(lock)
		if errno == api.OK || errno == api.ErrNone {
			errno = api.ErrLock
		}
		return errno
	}
	if errno := f.Sync(); errno != api.OK {
		f.Remove(lock)
		return errno
	}
	if errno := f.Move(lock, ref); errno != api.OK {
		return errno
	}
	return f.Sync()
}

func modelDelete(f *fsim.FS, name, old string) api.Errno {
	if !isName(name) {
		return api.ErrName
	}
	if !isHash(old) {
		return api.ErrRange
	}
	file, errno := f.Read("s/r/" + name)
	if errno == api.OK && string(file.Data) != old+"\n" {
		errno = api.ErrLock
	}
	if errno == api.OK {
		errno = f.Remove("s/r/" + name)
	}
	if errno == api.OK {
		errno = f.Sync()
	}
	return errno
}

// modelJust is the last names of the paths of three names.
func modelJust(paths []string) []string {
	var l []string
	for _, path := range paths {
		if parts := strings.Split(path, "/"); len(parts) == 3 {
			l = append(l, parts[2])
		}
	}
	slices.Sort(l)
	return l
}

func modelList(f *fsim.FS) ([]string, api.Errno) {
	paths, errno := f.List("s/r")
	return modelJust(paths), errno
}

func modelUnlock(f *fsim.FS) (int, api.Errno) {
	paths, errno := f.List("s/l")
	n := 0
	for _, name := range modelJust(paths) {
		errno = f.Remove("s/l/" + name)
		if errno != api.OK {
			return 0, errno
		}
		n++
	}
	return n, errno
}

// told is all that a file system tells of itself.
func told(f *fsim.FS) string {
	text := fmt.Sprintf("up %v, %d calls, %d changes, %d bytes, %d pending; files%s; user", f.Up(), f.Calls(), f.Now(), f.Used(), f.Pending(), filesOf(f))
	for _, e := range f.User() {
		text += fmt.Sprintf(" %d:%d %s", e.At, e.Kind, e.Path)
	}
	return text
}

// filesOf is what stands in f: paths, modes, data, times.
func filesOf(f *fsim.FS) string {
	text := ""
	for _, path := range f.Paths() {
		file, _ := f.Peek(path)
		text += fmt.Sprintf(" %s:%d%q@%d", path, file.Mode, file.Data, file.Time)
	}
	return text
}

// pair is two like file systems, one for refs and one for their model, and all
// that was done to them.
type pair struct {
	t         *testing.T
	f, modelF *fsim.FS
	done      []string
}

func newPair(t *testing.T, f *fsim.FS) *pair {
	return &pair{t: t, f: f, modelF: f.Copy()}
}

// files does something to the file systems themselves.
func (p *pair) files(name string, do func(f *fsim.FS)) {
	p.t.Helper()
	p.done = append(p.done, name)
	do(p.f)
	do(p.modelF)
	p.compare()
}

// act does something by refs and by their model; it tells what that answered.
func (p *pair) act(name string, do func(s system, f *fsim.FS) string) {
	p.t.Helper()
	p.done = append(p.done, name)
	got, want := do(built, p.f), do(model, p.modelF)
	if got != want {
		p.t.Fatalf("%s answered %s, want %s", strings.Join(p.done, ", "), got, want)
	}
	p.compare()
}

func (p *pair) compare() {
	p.t.Helper()
	if got, want := told(p.f), told(p.modelF); got != want {
		p.t.Fatalf("behind %s:\n%s, want\n%s", strings.Join(p.done, ", "), got, want)
	}
}

func (p *pair) get(name string) {
	p.t.Helper()
	p.act("Get("+name+")", func(s system, f *fsim.FS) string { return fmt.Sprint(s.get(f, name)) })
}

func (p *pair) set(name, old, new string) {
	p.t.Helper()
	p.act("Set("+name+", "+old+", "+new+")", func(s system, f *fsim.FS) string { return fmt.Sprint(s.set(f, name, old, new)) })
}

func (p *pair) delete(name, old string) {
	p.t.Helper()
	p.act("Delete("+name+", "+old+")", func(s system, f *fsim.FS) string { return fmt.Sprint(s.delete(f, name, old)) })
}

func (p *pair) list() {
	p.t.Helper()
	p.act("List()", func(s system, f *fsim.FS) string { return fmt.Sprint(s.list(f)) })
}

func (p *pair) unlock() {
	p.t.Helper()
	p.act("Unlock()", func(s system, f *fsim.FS) string { return fmt.Sprint(s.unlock(f)) })
}
