package fsim_test

import (
	"fmt"
	"maps"
	"slices"
	"strings"

	"marline/api"
	"marline/fsim"
)

// system is what can be done to a file system.
type system interface {
	Plan(l []fsim.Event)
	Read(path string) (fsim.File, api.Errno)
	List(dir string) ([]string, api.Errno)
	Create(path string, mode int, data []byte) api.Errno
	Write(path string, mode int, data []byte) api.Errno
	Move(from, to string) api.Errno
	MoveNew(from, to string) api.Errno
	Remove(path string) api.Errno
	Sync() api.Errno
	UserWrite(path string, mode int, data []byte) api.Errno
	UserRemove(path string) api.Errno
	Crash(keep, torn int)
	Up() bool
	Reboot()
	Calls() int
	Now() int
	Used() int
	Pending() int
	Peek(path string) (fsim.File, bool)
	Paths() []string
	User() []fsim.Event
}

// model says the chapter's words in another way: it keeps all that was there
// since the last Sync, and looks through everything for each answer.
type model struct {
	room, calls, now int
	down             bool
	plan             []fsim.Event
	planned          int // calls ahead of the plan
	user             []fsim.Event
	states           []state // the first is durable, the last is there
}

// state is all files, and the path of the one that a Create or a Write made of
// the state ahead of it.
type state struct {
	files map[string]fsim.File
	wrote string
}

func newModel(room int) *model {
	return &model{room: room, states: []state{{files: map[string]fsim.File{}}}}
}

func (m *model) copied() *model {
	c := *m
	c.user, c.states = slices.Clone(m.user), slices.Clone(m.states)
	return &c
}

func (m *model) files() map[string]fsim.File { return m.states[len(m.states)-1].files }

func isDirOf(dir, path string) bool { return strings.HasPrefix(path, dir+"/") }

func isPath(s string) bool {
	l := strings.Split(s, "/")
	return len(s) <= 200 && len(l) <= 8 && !slices.ContainsFunc(l, func(name string) bool {
		return name == "" || name == "." || name == ".." || len(name) > 64 || strings.ContainsFunc(name, func(r rune) bool { return r < '!' || r > '~' })
	})
}

func mayStandAmong(files map[string]fsim.File, path string) bool {
	for other := range files {
		if isDirOf(other, path) || isDirOf(path, other) {
			return false
		}
	}
	return true
}

func bytesOf(files map[string]fsim.File) int {
	n := 0
	for _, file := range files {
		n += len(file.Data)
	}
	return n
}

// begin tells the events of a call that are left, and why it can't be made.
func (m *model) begin() (noRoom bool, errno api.Errno) {
	m.calls++
	broken := false
	for _, e := range m.plan {
		if e.At != m.calls || e.At <= m.planned {
			continue
		}
		if e.Kind == 1 {
			m.Crash(e.Keep, e.Torn)
		} else if e.Kind == 2 {
			noRoom = true
		} else if e.Kind == 3 {
			broken = true
		} else if e.Kind == 4 {
			m.UserWrite(e.Path, e.Mode, e.Data)
		} else if e.Kind == 5 {
			m.UserRemove(e.Path)
		}
	}
	if m.down {
		return false, api.ErrDown
	}
	if broken {
		return false, api.ErrIO
	}
	return noRoom, api.OK
}

func (m *model) changed(files map[string]fsim.File, wrote string) api.Errno {
	m.now++
	m.states = append(m.states, state{files, wrote})
	return api.OK
}

func (m *model) Plan(l []fsim.Event) { m.plan, m.planned = l, m.calls }

func (m *model) Read(path string) (fsim.File, api.Errno) {
	if _, errno := m.begin(); errno != api.OK {
		return fsim.File{}, errno
	}
	file, ok := m.files()[path]
	if !isPath(path) {
		return fsim.File{}, api.ErrName
	} else if !ok {
		return fsim.File{}, api.ErrNone
	}
	return file, api.OK
}

func (m *model) List(dir string) ([]string, api.Errno) {
	if _, errno := m.begin(); errno != api.OK {
		return nil, errno
	}
	if dir == "" {
		return m.Paths(), api.OK
	} else if !isPath(dir) {
		return nil, api.ErrName
	}
	return slices.DeleteFunc(m.Paths(), func(path string) bool { return !isDirOf(dir, path) }), api.OK
}

func (m *model) put(path string, mode int, data []byte, room int, create bool) api.Errno {
	if !isPath(path) {
		return api.ErrName
	}
	if mode != 1 && mode != 2 && mode != 3 {
		return api.ErrRange
	}
	if len(data) > 20000 {
		return api.ErrLong
	}
	files := maps.Clone(m.files())
	if _, stands := files[path]; stands && create {
		return api.ErrExists
	}
	if !mayStandAmong(files, path) {
		return api.ErrDir
	}
	files[path] = fsim.File{Mode: mode, Data: slices.Clone(data), Time: m.now + 1}
	if bytesOf(files) > room {
		return api.ErrFull
	}
	return m.changed(files, path)
}

func (m *model) called(path string, mode int, data []byte, create bool) api.Errno {
	noRoom, errno := m.begin()
	if errno != api.OK {
		return errno
	}
	room := m.room
	if noRoom {
		room = -1
	}
	return m.put(path, mode, data, room, create)
}

func (m *model) Create(path string, mode int, data []byte) api.Errno {
	return m.called(path, mode, data, true)
}

func (m *model) Write(path string, mode int, data []byte) api.Errno {
	return m.called(path, mode, data, false)
}

func (m *model) move(from, to string, create bool) api.Errno {
	if _, errno := m.begin(); errno != api.OK {
		return errno
	}
	if !isPath(from) || !isPath(to) {
		return api.ErrName
	}
	files := maps.Clone(m.files())
	file, stands := files[from]
	_, stood := files[to]
	if !stands {
		return api.ErrNone
	}
	if stood && create {
		return api.ErrExists
	}
	if from == to {
		return api.OK
	}
	delete(files, from)
	if !stood && !mayStandAmong(files, to) {
		return api.ErrDir
	}
	files[to] = file
	return m.changed(files, "")
}

func (m *model) Move(from, to string) api.Errno    { return m.move(from, to, false) }
func (m *model) MoveNew(from, to string) api.Errno { return m.move(from, to, true) }

func (m *model) drop(path string) api.Errno {
	if !isPath(path) {
		return api.ErrName
	}
	files := maps.Clone(m.files())
	if _, stands := files[path]; !stands {
		return api.ErrNone
	}
	delete(files, path)
	return m.changed(files, "")
}

func (m *model) Remove(path string) api.Errno {
	if _, errno := m.begin(); errno != api.OK {
		return errno
	}
	return m.drop(path)
}

func (m *model) Sync() api.Errno {
	_, errno := m.begin()
	if errno == api.OK {
		m.states = m.states[len(m.states)-1:]
	}
	return errno
}

func (m *model) byUser(errno api.Errno, e fsim.Event) api.Errno {
	if errno == api.OK {
		e.At = m.calls
		m.user = append(m.user, e)
		m.states = m.states[len(m.states)-1:]
	}
	return errno
}

func (m *model) UserWrite(path string, mode int, data []byte) api.Errno {
	if m.down {
		return api.ErrDown
	}
	return m.byUser(m.put(path, mode, data, 1<<40, false), fsim.Event{Kind: 4, Path: path, Mode: mode, Data: slices.Clone(data)})
}

func (m *model) UserRemove(path string) api.Errno {
	if m.down {
		return api.ErrDown
	}
	return m.byUser(m.drop(path), fsim.Event{Kind: 5, Path: path})
}

func (m *model) Crash(keep, torn int) {
	if m.down {
		return
	}
	m.down = true
	last := len(m.states) - 1
	keep = min(max(keep, 0), last)
	files := m.states[keep].files
	if keep < last && torn >= 0 {
		next := m.states[keep+1]
		if file, wrote := next.files[next.wrote]; wrote && torn < len(file.Data) {
			files = maps.Clone(next.files)
			file.Data = file.Data[:torn]
			files[next.wrote] = file
		}
	}
	m.states = []state{{files: files}}
}

func (m *model) Up() bool     { return !m.down }
func (m *model) Reboot()      { m.down = false }
func (m *model) Calls() int   { return m.calls }
func (m *model) Now() int     { return m.now }
func (m *model) Used() int    { return bytesOf(m.files()) }
func (m *model) Pending() int { return len(m.states) - 1 }

func (m *model) Peek(path string) (fsim.File, bool) {
	file, stands := m.files()[path]
	return file, stands
}

func (m *model) Paths() []string { return slices.Sorted(maps.Keys(m.files())) }

func (m *model) User() []fsim.Event { return slices.Clone(m.user) }

// told is all that s tells without a call.
func told(s system) string {
	text := fmt.Sprintf("up %v, %d calls, %d changes, %d bytes, %d pending; files%s; user", s.Up(), s.Calls(), s.Now(), s.Used(), s.Pending(), filesOf(s))
	for _, e := range s.User() {
		text += fmt.Sprintf(" %d/%d/%d/%d/%d/%s/%q", e.At, e.Kind, e.Mode, e.Keep, e.Torn, e.Path, e.Data)
	}
	return text
}

// filesOf is the files that stand: path, mode, data and time.
func filesOf(s system) string {
	text := ""
	for _, path := range s.Paths() {
		file, stands := s.Peek(path)
		if !stands {
			text += " (none)"
		}
		text += " " + path + ":" + fileText(file)
	}
	return text
}

func fileText(file fsim.File) string {
	return fmt.Sprintf("%d%q@%d", file.Mode, file.Data, file.Time)
}
