package scan_test

import (
	"fmt"
	"math/rand"
	"slices"
	"strings"
	"testing"

	"marline/api"
	"marline/fsim"
	"marline/names"
	"marline/scan"
)

// rounds is how often a test of random things does them.
func rounds(n int) int {
	if testing.Short() {
		return n / 10
	}
	return n
}

// indexModel says the chapter's words in another way: it has lines in a list,
// and the store it asks for bytes.
type indexModel struct {
	lines   []line
	written int
}

type line struct {
	path string
	time int
	id   string
}

func (m *indexModel) scan(b bench, ignore []string) (rows []api.Row, worked int, errno api.Errno) {
	all, errno := b.f.List("w")
	if errno != api.OK {
		return nil, 0, errno
	}
	var lines []line
	for _, place := range all {
		path := place[2:]
		if names.Ignored(ignore, path) {
			continue
		}
		if len(rows) == 256 {
			return nil, 0, api.ErrLimit
		}
		file, errno := b.f.Read(place)
		if errno == api.ErrNone {
			continue
		} else if errno != api.OK {
			return nil, 0, errno
		}
		l := line{path: path, time: file.Time}
		for _, known := range m.lines {
			if known.path == path && known.time == file.Time && known.time < m.written {
				if _, errno := b.s.Get(known.id); errno == api.OK {
					l.id = known.id
				}
			}
		}
		if l.id == "" {
			if len(file.Data) > 4096 {
				return nil, 0, api.ErrLong
			}
			id, errno := b.s.Put(append([]byte{1}, file.Data...))
			if errno != api.OK {
				return nil, 0, errno
			}
			worked++
			l.id = id
		}
		lines = append(lines, l)
		rows = append(rows, api.Row{Path: path, Entry: api.Entry{Mode: file.Mode, ID: l.id}})
	}
	m.lines, m.written = lines, b.f.Now()
	return rows, worked, api.OK
}

var somePaths = []string{"w/a", "w/a/b", "w/a-b", "w/b", "w/c.o", "w/d/e/f", "w/d/e.o", "w/z", "v", "w", "s/t", "s"}

func somePath(r *rand.Rand) string { return somePaths[r.Intn(len(somePaths))] }

func someData(r *rand.Rand) []byte {
	switch r.Intn(20) {
	case 0:
		return []byte(strings.Repeat("l", 4095+r.Intn(3)))
	case 1:
		return nil
	}
	return []byte{byte('0' + r.Intn(4))}
}

// someAct does something to both file systems.
func someAct(r *rand.Rand, both ...bench) {
	path, to, mode, data, kind := somePath(r), somePath(r), 1+r.Intn(3), someData(r), r.Intn(12)
	id := hashOf(string(someData(r)))
	for _, b := range both {
		switch kind {
		case 0, 1, 2, 3:
			b.f.UserWrite(path, mode, data)
		case 4, 5:
			b.f.UserRemove(path)
		case 6:
			b.f.Move(path, to)
		case 7:
			b.f.Write(path, mode, data)
		case 8:
			b.s.Drop(id)
		case 9:
			b.f.UserWrite("s/o/"+id, mode, data)
		case 10:
			b.f.Sync()
		case 11:
			b.f.UserRemove("s/o/" + id)
		}
	}
}

// somePlan is events of the calls that come next.
func somePlan(r *rand.Rand, f *fsim.FS) []fsim.Event {
	var l []fsim.Event
	for range r.Intn(4) {
		e := fsim.Event{At: f.Calls() + 1 + r.Intn(20), Kind: 2 + r.Intn(4), Mode: 1 + r.Intn(3), Path: somePath(r), Data: someData(r)}
		if r.Intn(8) == 0 {
			e.Kind = fsim.Crashed
			e.Keep, e.Torn = r.Intn(9), r.Intn(3)-1
		}
		l = append(l, e)
	}
	return l
}

func TestScanAsTheModel(t *testing.T) { // P13.1, P13.3
	r := rand.New(rand.NewSource(13))
	ignores := [][]string{nil, nil, nil, {"*.o"}, {"d/"}, {"a", "?"}, {"z*", "b"}}
	outcomes := map[api.Errno]int{}
	for n := range rounds(1500) {
		b := newBenchOf(t, []int{1 << 20, 300, 20}[r.Intn(3)])
		c, m := b.copied(), &indexModel{}
		for range 25 {
			for range r.Intn(4) {
				someAct(r, b, c)
			}
			if r.Intn(3) == 0 {
				l := somePlan(r, b.f)
				b.f.Plan(l)
				c.f.Plan(l)
			}
			ignore := ignores[r.Intn(len(ignores))]
			ahead := b.x.Copy()
			rows, worked, errno := scan.Scan(b.f, b.s, b.x, ignore)
			wantRows, wantWorked, wantErrno := m.scan(c, ignore)
			if errno != api.OK {
				b.x = ahead // it is as good as it
			}
			if !slices.Equal(rows, wantRows) || worked != wantWorked && errno == api.OK || errno != wantErrno || errno != api.OK && worked != 0 {
				t.Fatalf("round %d: %s, %d, %d, want %s, %d, %d", n, shown(rows), worked, errno, shown(wantRows), wantWorked, wantErrno)
			}
			if told(b.f) != told(c.f) || b.s.Reads() != c.s.Reads() || b.x.Len() != len(m.lines) {
				t.Fatalf("round %d:\n%s, %d reads, %d paths, want\n%s, %d reads, %d paths", n, told(b.f), b.s.Reads(), b.x.Len(), told(c.f), c.s.Reads(), len(m.lines))
			}
			outcomes[errno]++
			b.f.Reboot()
			c.f.Reboot()
			if r.Intn(5) == 0 {
				b.x = b.x.Copy()
			}
		}
	}
	for _, errno := range []api.Errno{api.OK, api.ErrLong, api.ErrIO, api.ErrFull, api.ErrDown, api.ErrDir} {
		if outcomes[errno] < 2 {
			t.Errorf("error %d came %d times: %s", errno, outcomes[errno], fmt.Sprint(outcomes))
		}
	}
}
