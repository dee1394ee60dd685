package lines_test

import (
	"bytes"
	"math/rand"
	"slices"
	"strconv"
	"strings"
	"testing"

	"marline/api"
	"marline/lines"
)

func TestText(t *testing.T) { // P14.1
	for _, c := range []struct {
		b    string
		want bool
	}{
		{"", true}, {"a", true}, {"\n", true}, {"a\nb\n", true}, {"0", true}, {"\x01", true}, {"\xff\xfe", true}, {"\xc0\x80", true},
		{"\x00", false}, {"\x00a", false}, {"a\x00", false}, {"a\x00b", false}, {"a\n\x00\n", false}, {"\x00\x00", false},
	} {
		if got := lines.Text([]byte(c.b)); got != c.want {
			t.Errorf("Text(%q) = %t", c.b, got)
		}
	}
	if !lines.Text(nil) {
		t.Error("Text of nothing")
	}
	for c := range 256 {
		if got := lines.Text([]byte{byte(c)}); got != (c != 0) {
			t.Errorf("Text of byte %d = %t", c, got)
		}
	}
}

// Of the size of a text there is no bound.
func TestLongTexts(t *testing.T) { // P14.1
	b := bytes.Repeat([]byte("x"), 100000)
	if !lines.Text(b) {
		t.Error("no text")
	}
	b[99999] = 0
	if lines.Text(b) {
		t.Error("a text with a 0 at its end")
	}
	if l := lines.Split(b); len(l) != 1 || l[0] != string(b) {
		t.Errorf("%d lines", len(l))
	}
	b = bytes.Repeat([]byte("a\n"), 50000)
	l := lines.Split(b)
	if len(l) != 50000 || slices.ContainsFunc(l, func(line string) bool { return line != "a\n" }) {
		t.Errorf("%d lines", len(l))
	}
	if !bytes.Equal(lines.Join(l), b) {
		t.Error("joined otherwise")
	}
}

func TestSplit(t *testing.T) { // P14.1
	for _, c := range []struct {
		b    string
		want []string
	}{
		{"", nil},
		{"a", []string{"a"}},
		{"\n", []string{"\n"}},
		{"a\n", []string{"a\n"}},
		{"a\nb", []string{"a\n", "b"}},
		{"a\nb\n", []string{"a\n", "b\n"}},
		{"\na", []string{"\n", "a"}},
		{"\n\n", []string{"\n", "\n"}},
		{"a\n\nb", []string{"a\n", "\n", "b"}},
		{"a\n\n", []string{"a\n", "\n"}},
		{"a\r\nb\r", []string{"a\r\n", "b\r"}},
		{"\r\v\f\x85\u2028", []string{"\r\v\f\x85\u2028"}},
		{"\x00\n\x00", []string{"\x00\n", "\x00"}},
		{"\xff\n\xfe", []string{"\xff\n", "\xfe"}},
		{" \n\t\n", []string{" \n", "\t\n"}},
	} {
		if l := lines.Split([]byte(c.b)); !slices.Equal(l, c.want) {
			t.Errorf("Split(%q) = %q, want %q", c.b, l, c.want)
		}
	}
	if l := lines.Split(nil); len(l) > 0 {
		t.Errorf("Split of nothing = %q", l)
	}
	for c := range 256 {
		b := []byte{'a', byte(c), 'b'}
		if l := lines.Split(b); (len(l) == 2) != (c == 10) {
			t.Errorf("Split(%q) = %q", b, l)
		}
	}
}

// What Join is handed need not be what Split answers.
func TestJoin(t *testing.T) { // P14.1
	for _, c := range []struct {
		l    []string
		want string
	}{
		{nil, ""},
		{[]string{""}, ""},
		{[]string{"", "", ""}, ""},
		{[]string{"a"}, "a"},
		{[]string{"a", "b"}, "ab"},
		{[]string{"a\n", "b\n"}, "a\nb\n"},
		{[]string{"a\nb", "", "\n", "\x00\xff"}, "a\nb\n\x00\xff"},
		{[]string{"b", "a", "b"}, "bab"},
	} {
		if b := lines.Join(c.l); string(b) != c.want {
			t.Errorf("Join(%q) = %q", c.l, b)
		}
	}
}

func TestJoinOfSplit(t *testing.T) { // P14.5
	r := rand.New(rand.NewSource(5))
	for range rounds(2000) {
		b := make([]byte, r.Intn(300))
		r.Read(b)
		for range r.Intn(40) {
			if len(b) > 0 {
				b[r.Intn(len(b))] = 10
			}
		}
		l := lines.Split(b)
		if !bytes.Equal(lines.Join(l), b) {
			t.Fatalf("%q is split and joined as %q", b, lines.Join(l))
		}
		for i, line := range l {
			if end := strings.IndexByte(line, 10); line == "" || end >= 0 && end < len(line)-1 || end < 0 && i < len(l)-1 {
				t.Fatalf("Split(%q): line %d is %q", b, i, line)
			}
		}
	}
}

// Texts, changed, are made again by what differs.
func TestPatchOfDiffOfTexts(t *testing.T) { // P14.5
	r := rand.New(rand.NewSource(6))
	for range rounds(500) {
		var old []string
		for range r.Intn(150) {
			old = append(old, strconv.Itoa(r.Intn(100))+"\n")
		}
		young := edited(r, old, 26)
		from, to := lines.Join(old), lines.Join(young)
		edits, errno := lines.Diff(lines.Split(from), lines.Split(to))
		if errno != api.OK {
			t.Fatalf("Diff of %q, %q = %d", from, to, errno)
		}
		got, errno := lines.Patch(lines.Split(from), edits)
		if errno != api.OK || !bytes.Equal(lines.Join(got), to) {
			t.Fatalf("%q becomes %q, %d, want %q", from, lines.Join(got), errno, to)
		}
	}
}
