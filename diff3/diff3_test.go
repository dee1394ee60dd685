package diff3_test

import (
	"bytes"
	"slices"
	"strings"
	"testing"

	"marline/api"
	"marline/diff3"
)

// text is words as lines.
func text(words string) string {
	out := ""
	for _, w := range strings.Fields(words) {
		out += w + "\n"
	}
	return out
}

func TestMerge(t *testing.T) { // P15.2, P15.4
	for _, c := range []struct{ name, o, a, b, want string }{
		{"nothing", "", "", "", ""},
		{"nobody changed a line", "1 2 3", "1 2 3", "1 2 3", "1 2 3"},
		{"a line is another, a line comes", "1 2 3", "1 x 3", "1 2 3 4", "1 x 3 4"},
		{"a line comes, a line goes", "1 2 3 4 5", "0 1 2 3 4 5", "1 2 3 5", "0 1 2 3 5"},
		{"both leave out one line", "1 2 3", "1 3", "1 3", "1 3"},
		{"both put in one line", "1 2", "1 x 2", "1 x 2", "1 x 2"},
		{"both write over one line alike", "1 2 3", "1 x 3", "1 x 3", "1 x 3"},
		{"one empties it", "1 2", "", "1 2", ""},
		{"both empty it", "1 2", "", "", ""},
		{"one begins it", "", "1 2", "", "1 2"},
		{"both begin it alike", "", "1 2", "1 2", "1 2"},
		{"ahead and behind of one line", "1", "x 1", "1 y", "x 1 y"},
		{"ahead and behind of a line that goes", "1 2 3", "x 1 2 3 z", "1 3", "x 1 3 z"},
		{"each its own lines, one alike", "1 2 3 4 5", "a 2 3 4 e", "1 2 c 4 e", "a 2 c 4 e"},
		{"a line is moved over ones that stay", "1 2 3 4", "2 3 4 1", "1 2 3 x 4", "2 3 x 4 1"},
	} {
		o, a, b, want := text(c.o), text(c.a), text(c.b), text(c.want)
		merged, ok, errno := diff3.Merge([]byte(o), []byte(a), []byte(b))
		if string(merged) != want || !ok || errno != api.OK {
			t.Errorf("%s: %q, %t, %d, want %q", c.name, merged, ok, errno, want)
		}
		if !checkMerge(t, o, a, b) {
			t.Errorf("%s: the model has a fight", c.name)
		}
	}
}

func TestMergeOfConflicts(t *testing.T) { // P15.2, P15.4
	for _, c := range []struct{ name, o, a, b string }{
		{"one line is two others", "1 2 3", "1 x 3", "1 y 3"},
		{"one line goes, or is another", "1 2 3", "1 3", "1 y 3"},
		{"both begin it unlike", "", "x", "y"},
		{"one empties it, one writes", "1 2", "", "1 x"},
		{"lines come at one place", "1 2", "1 x 2", "1 y 2"},
		{"of the same lines one has more", "1", "x 1", "x x 1"},
		{"lines beside one another", "1 2 3 4", "1 x 3 4", "1 2 y 4"},
		{"at the front alone", "1 2 3", "x 2 3", "y 2 3 4"},
		{"at the end alone", "1 2 3", "0 1 2 x", "1 2 y"},
		{"in the midst alone", "1 2 3 4 5", "a 2 x 4 5", "1 2 y 4 e"},
	} {
		o, a, b := text(c.o), text(c.a), text(c.b)
		merged, ok, errno := diff3.Merge([]byte(o), []byte(a), []byte(b))
		if len(merged) > 0 || ok || errno != api.OK {
			t.Errorf("%s: %q, %t, %d", c.name, merged, ok, errno)
		}
		if checkMerge(t, o, a, b) {
			t.Errorf("%s: the model has no fight", c.name)
		}
	}
}

// The end of a line belongs to it; the last one may have none.
func TestMergeOfBytes(t *testing.T) { // P15.2
	for _, c := range []struct {
		o, a, b, want string
		ok            bool
	}{
		{"a\nb", "a\nb", "A\nb", "A\nb", true},
		{"a\nb", "a\nb\n", "A\nb", "", false},
		{"a\n1\nb", "a\n1\nb\n", "A\n1\nb", "A\n1\nb\n", true},
		{"a\n1\nb\n", "a\n1\nb", "A\n1\nb\n", "A\n1\nb", true},
		{"a\nb\n", "a\nb", "a\nb", "a\nb", true},
		{"a\nb", "a\nb\n", "a\nb\nc", "", false},
		{"a", "a\n", "a\nb", "", false},
		{"a\n", "a\nb", "a\n", "a\nb", true},
		{"a\n", "a\nb", "a\nb\n", "", false},
		{"a\n", "x\na\n", "a\nb", "x\na\nb", true},
		{"\n", "\n\n", "\n", "\n\n", true},
		{"\n\n", "\n", "\n", "\n", true},
		{"\n", "", "", "", true},
		{"a\n", "a\r\n", "a\n", "a\r\n", true},
		{"a\nb\n", "a\r\nb\n", "a\nb\r\n", "", false},
		{"a\n\nb\n", "a\r\n\nb\n", "a\n\nb\r\n", "a\r\n\nb\r\n", true},
		{"a\rb", "a\rb", "a\rc", "a\rc", true},
		{"\x01\xff\n", "\x01\xff\n\xfe", "\x01\xff\n", "\x01\xff\n\xfe", true},
		{"a \n", "a\n", "a \n", "a\n", true},
		{"é\n", "e\u0301\n", "é\n", "e\u0301\n", true},
	} {
		merged, ok, errno := diff3.Merge([]byte(c.o), []byte(c.a), []byte(c.b))
		if string(merged) != c.want || ok != c.ok || errno != api.OK {
			t.Errorf("Merge(%q, %q, %q) = %q, %t, %d, want %q", c.o, c.a, c.b, merged, ok, errno, c.want)
		}
		checkMerge(t, c.o, c.a, c.b)
	}
	if merged, ok, errno := diff3.Merge(nil, nil, nil); len(merged) > 0 || !ok || errno != api.OK {
		t.Errorf("Merge of nothing = %q, %t, %d", merged, ok, errno)
	}
}

func TestMergeOfNoTexts(t *testing.T) { // P15.2
	over := strings.Repeat("a\n", api.MaxLines+1)
	for _, c := range []struct{ name, o, a, b string }{
		{"o", "\x00", "", ""},
		{"a", "", "\x00", ""},
		{"b", "", "", "\x00"},
		{"all", "\x00", "\x00", "\x00"},
		{"o alone, a and b are the same", "a\x00", "b", "b"},
		{"a alone, b is o", "a", "a\x00", "a"},
		{"b alone, a is o", "a", "a", "a\x00"},
		{"the same bytes", "a\n\x00\n", "a\n\x00\n", "a\n\x00\n"},
		{"at the end of a", "", "abc\ndef\n\x00", ""},
		{"o has too many lines, too", over + "\x00", "", ""},
		{"a is no text, b has too many lines", "", "\x00", over},
		{"b is no text, a has too many lines", "", over, "\x00"},
		{"o has too many lines, b is no text", over, "", "\x00"},
		{"a is no text, there is a fight", "1\n", "x\x00\n", "y\n"},
	} {
		merged, ok, errno := diff3.Merge([]byte(c.o), []byte(c.a), []byte(c.b))
		if len(merged) > 0 || ok || errno != api.OK {
			t.Errorf("%s: %q, %t, %d", c.name, merged, ok, errno)
		}
	}
}

func TestMergeBeyondTheLimit(t *testing.T) { // P15.2
	most, over := strings.Repeat("a\n", api.MaxLines), strings.Repeat("a\n", api.MaxLines+1)
	unended := most + "a"
	for _, c := range []struct{ name, o, a, b string }{
		{"o", over, "", ""},
		{"a", "", over, ""},
		{"b", "", "", over},
		{"all", over, over, over},
		{"o, the others have the most", over, most, most},
		{"a, the others have the most", most, over, most},
		{"b, the others have the most", most, most, over},
		{"a, by a line without an end", most, unended, most},
		{"both, by a line without an end", most, unended, unended},
		{"a by far, with a fight", "x", strings.Repeat("\n", 100000), "y"},
	} {
		merged, ok, errno := diff3.Merge([]byte(c.o), []byte(c.a), []byte(c.b))
		if len(merged) > 0 || ok || errno != api.ErrLimit {
			t.Errorf("%s: %d bytes, %t, %d", c.name, len(merged), ok, errno)
		}
	}
}

// Of lines that are merged there may be more than of each text.
func TestMergeAtTheLimit(t *testing.T) { // P15.2
	most := strings.Join(numbered(0, api.MaxLines), "")
	half := strings.Join(numbered(50, 100), "")
	ahead := strings.Join(numbered(1000, 100), "") + half
	behind := half + strings.Join(numbered(2000, 100), "")
	for _, c := range []struct{ name, o, a, b, want string }{
		{"the same", most, most, most, most},
		{"all goes", most, "", most, ""},
		{"all comes", "", most, most, most},
		{"100 ahead, 100 behind", half, ahead, behind, ahead + strings.TrimPrefix(behind, half)},
	} {
		merged, ok, errno := diff3.Merge([]byte(c.o), []byte(c.a), []byte(c.b))
		if string(merged) != c.want || !ok || errno != api.OK {
			t.Errorf("%s: %q, %t, %d", c.name, merged, ok, errno)
		}
		checkMerge(t, c.o, c.a, c.b)
	}
}

// The bytes of a text have no bound here.
func TestMergeOfLongLines(t *testing.T) { // P15.2
	long := bytes.Repeat([]byte("x"), 100000)
	o := slices.Concat(long, []byte("\n"), long)
	a := slices.Concat([]byte("a\n"), o)
	b := slices.Concat(o, []byte("\nb"))
	merged, ok, errno := diff3.Merge(o, a, o)
	if !bytes.Equal(merged, a) || !ok || errno != api.OK {
		t.Errorf("%d bytes, %t, %d", len(merged), ok, errno)
	}
	merged, ok, errno = diff3.Merge(o, a, b)
	if want := slices.Concat(a, []byte("\nb")); !bytes.Equal(merged, want) || !ok || errno != api.OK {
		t.Errorf("%d bytes, %t, %d", len(merged), ok, errno)
	}
}
