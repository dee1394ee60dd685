package refs_test

import (
	"fmt"
	"math/rand"
	"slices"
	"strings"
	"testing"

	"marline/api"
	"marline/fsim"
)

func someNames() []string {
	return []string{"head", "peer", "a", "z~", strings.Repeat("n", api.MaxName)}
}

func notNames() []string {
	return []string{
		"", ".", "..", "/", "a/b", "/a", "a/", "../a", "a b", " a", "a\n", "a\x00", "\x7f", "é", "\xff", strings.Repeat("n", api.MaxName+1), strings.Repeat("n", 1000),
	}
}

func someHashes() []string {
	return []string{idOf("a"), idOf("b"), idOf("c"), strings.Repeat("0", 64), strings.Repeat("f", 64)}
}

// notHashes has no empty text: as what is expected that is none of these.
func notHashes() []string {
	id := idOf("a")
	return []string{
		"x", "\n", id[1:], id + "0", id + "\n", id + id, strings.ToUpper(id), id[:63] + "g", id[:63] + "\n", " " + id[1:], "\n" + id[1:],
		strings.Repeat("\x00", 64), strings.Repeat("é", 32), strings.Repeat(" ", 64),
	}
}

// someTexts are those that may lie at a ref's place; the last ones are those
// of no ref.
func someTexts() []string {
	var l []string
	for _, id := range someHashes() {
		l = append(l, id+"\n")
	}
	return append(l, badTexts()...)
}

func badTexts() []string {
	id := idOf("a")
	return []string{
		"", "\n", "x\n", id, id + "\n\n", "\n" + id, "\n" + id + "\n", id + " \n", id + "\r\n", id + "\n" + id + "\n", id + "\x00", id + "\nx",
		id[1:] + "\n", id[:63] + "\n", id + "0\n", strings.ToUpper(id) + "\n", id[:63] + "g\n", id[:40], strings.Repeat("\n", 65), id + "\v",
	}
}

func pick[T any](r *rand.Rand, l []T) T { return l[r.Intn(len(l))] }

func randomName(r *rand.Rand) string {
	if r.Intn(20) == 0 {
		return pick(r, notNames())
	}
	return pick(r, someNames()[:2+r.Intn(4)])
}

func randomHash(r *rand.Rand) string {
	switch r.Intn(20) {
	case 0:
		return pick(r, notHashes())
	case 1, 2, 3, 4, 5:
		return ""
	}
	return pick(r, someHashes()[:2+r.Intn(4)])
}

// randomPath is one that lies in the way of refs, or beside them.
func randomPath(r *rand.Rand) string {
	name := randomName(r)
	return pick(r, []string{
		"s/r/" + name, "s/r/" + name, "s/r/" + name, "s/l/" + name, "s/l/" + name, "s/r/" + name + "/x", "s/l/" + name + "/x", "s/r/d/" + name, "s/l/d/" + name,
		"s/r", "s/l", "s", "s/rx/" + name, "s/lx/" + name, "r/" + name, "w/a",
	})
}

func randomPlan(r *rand.Rand) []fsim.Event {
	l := make([]fsim.Event, r.Intn(10))
	for i := range l {
		l[i] = fsim.Event{
			At: 1 + r.Intn(30), Kind: 1 + r.Intn(5), Mode: 1 + r.Intn(3), Keep: r.Intn(9), Torn: r.Intn(70) - 1,
			Path: randomPath(r), Data: []byte(pick(r, someTexts())),
		}
	}
	return l
}

// planned is l, each event so many calls behind those that there were.
func planned(f *fsim.FS, l []fsim.Event) []fsim.Event {
	later := slices.Clone(l)
	for i := range later {
		later[i].At += f.Calls()
	}
	return later
}

func (p *pair) doBeside(r *rand.Rand) {
	p.t.Helper()
	path, text, mode := randomPath(r), pick(r, someTexts()), 1+r.Intn(3)
	switch r.Intn(10) {
	case 0, 1:
		p.files("UserWrite("+path+")", func(f *fsim.FS) { f.UserWrite(path, mode, []byte(text)) })
	case 2:
		p.files("Write("+path+")", func(f *fsim.FS) { f.Write(path, mode, []byte(text)) })
	case 3, 4:
		p.files("UserRemove("+path+")", func(f *fsim.FS) { f.UserRemove(path) })
	case 5:
		keep, torn := r.Intn(9), r.Intn(70)-1
		p.files(fmt.Sprintf("Crash(%d, %d)", keep, torn), func(f *fsim.FS) { f.Crash(keep, torn) })
	case 6, 7:
		p.files("Reboot()", func(f *fsim.FS) { f.Reboot() })
	case 8:
		p.files("Sync()", func(f *fsim.FS) { f.Sync() })
	case 9:
		l := randomPlan(r)
		p.files(fmt.Sprintf("Plan(%d events)", len(l)), func(f *fsim.FS) { f.Plan(planned(f, l)) })
	}
}

// oldOf is mostly what a ref has now, so that it can be set again.
func (p *pair) oldOf(r *rand.Rand, name string) string {
	if r.Intn(3) == 0 {
		return randomHash(r)
	}
	file, _ := p.f.Peek("s/r/" + name)
	return strings.TrimSuffix(string(file.Data), "\n")
}

func (p *pair) doRandom(r *rand.Rand) {
	p.t.Helper()
	name := randomName(r)
	switch r.Intn(20) {
	case 0, 1, 2, 3, 4, 5, 6:
		p.set(name, p.oldOf(r, name), randomHash(r))
	case 7, 8, 9:
		p.get(name)
	case 10, 11:
		p.delete(name, p.oldOf(r, name))
	case 12:
		p.list()
	case 13, 14:
		p.unlock()
	default:
		p.doBeside(r)
	}
}

func TestRandomRuns(t *testing.T) { // P8.1 to P8.3
	runs := 1500
	if testing.Short() {
		runs = 150
	}
	r := rand.New(rand.NewSource(81))
	for range runs {
		p := newPair(t, newFS(t, pick(r, []int{0, 65, 130, 400, 1 << 20})))
		for range 60 {
			p.doRandom(r)
		}
	}
}

// prepared are file systems on which a call goes another way each: nothing
// there, the ref there, others there, something in the way.
func prepared(t *testing.T) map[string]*fsim.FS {
	a, b := idOf("a")+"\n", idOf("b")+"\n"
	write := func(room int, files ...string) *fsim.FS {
		f := newFS(t, room)
		for i := 0; i < len(files); i += 2 {
			f.UserWrite(files[i], api.Exec, []byte(files[i+1]))
		}
		return f
	}
	return map[string]*fsim.FS{
		"empty":             write(1000),
		"no room":           write(64),
		"just room":         write(65),
		"a":                 write(1000, "s/r/head", a),
		"a, no room":        write(65, "s/r/head", a),
		"a, just room":      write(130, "s/r/head", a),
		"b":                 write(1000, "s/r/head", b),
		"a, locked":         write(1000, "s/r/head", a, "s/l/head", b),
		"locked by nothing": write(1000, "s/l/head", ""),
		"nothing in it":     write(1000, "s/r/head", ""),
		"a byte 10 alone":   write(1000, "s/r/head", "\n"),
		"no byte 10":        write(1000, "s/r/head", idOf("a")),
		"more behind":       write(1000, "s/r/head", a+"\n"),
		"s is a file":       write(1000, "s", "f"),
		"s/r is a file":     write(1000, "s/r", "f"),
		"s/l is a file":     write(1000, "s/l", "f"),
		"place is a dir":    write(1000, "s/r/head/x", "f"),
		"lock is a dir":     write(1000, "s/l/head/x", "f"),
		"a, lock is a dir":  write(1000, "s/r/head", a, "s/l/head/x", "f"),
		"many":              write(1000, "s/r/z", a, "s/r/head", a, "s/r/d/e", a, "s/rx/q", a, "s/l/z", "", "s/l/other", b, "s/l/d/e", b, "s/lx/q", b, "s/l/A", b),
	}
}

// Each call on each of these file systems, with each two events ahead of each
// of its calls of the file system.
func TestEachEventAheadOfEachCall(t *testing.T) { // P8.1 to P8.3
	a, b := idOf("a"), idOf("b")
	calls := map[string]func(p *pair){
		"Get":         func(p *pair) { p.get("head") },
		"Set nothing": func(p *pair) { p.set("head", "", b) },
		"Set a":       func(p *pair) { p.set("head", a, b) },
		"Set a to a":  func(p *pair) { p.set("head", a, a) },
		"Delete":      func(p *pair) { p.delete("head", a) },
		"List":        func(p *pair) { p.list() },
		"Unlock":      func(p *pair) { p.unlock() },
	}
	for where, f := range prepared(t) {
		for name, call := range calls {
			for i, first := range someEvents(1) {
				if i > 0 && testing.Short() {
					continue
				}
				for at := 1; at <= 6; at++ {
					for j, second := range someEvents(at + 1) {
						first.At = at
						both := f.Copy()
						both.Plan([]fsim.Event{first, second})
						p := newPair(t, both)
						p.done = []string{where, name, fmt.Sprintf("event %d at %d, %d behind it", i, at, j)}
						call(p)
						call(p)
					}
				}
			}
		}
	}
}

func someEvents(at int) []fsim.Event {
	text := []byte(idOf("a") + "\n")
	l := []fsim.Event{
		{}, {Kind: fsim.Crashed}, {Kind: fsim.Crashed, Keep: 1}, {Kind: fsim.Crashed, Torn: 1}, {Kind: fsim.NoRoom}, {Kind: fsim.Broken},
		{Kind: fsim.Wrote, Path: "s/r/head", Mode: 2, Data: text}, {Kind: fsim.Wrote, Path: "s/r/head/u", Mode: 1}, {Kind: fsim.Wrote, Path: "s/l/head", Mode: 3},
		{Kind: fsim.Removed, Path: "s/r/head"}, {Kind: fsim.Removed, Path: "s/l/head"}, {Kind: fsim.Removed, Path: "s/l/other"},
	}
	for i := range l {
		l[i].At = at
	}
	return l
}
