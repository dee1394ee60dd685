package obj_test

import (
	"bytes"
	"encoding/hex"
	"math/rand"
	"slices"
	"strings"
	"testing"

	"marline/api"
	"marline/obj"
)

// wantDecode holds Decode against the model, and its answer against Encode.
func wantDecode(t *testing.T, b []byte) bool {
	t.Helper()
	want, ok := objectOf(b)
	wantErrno := api.ErrForm
	switch {
	case ok:
		wantErrno = api.OK
	case len(b) == 0:
		wantErrno = api.ErrShort
	}
	o, errno := obj.Decode(b)
	if errno != wantErrno || !obj.Same(o, want) {
		t.Errorf("Decode of %.200x: %d, %v, want %d, %v", b, errno, o, wantErrno, want)
	}
	if again, e := obj.Encode(o); ok && (e != api.OK || !bytes.Equal(again, b)) {
		t.Errorf("Encode of Decode of %.200x: %d, %.200x", b, e, again)
	}
	return ok
}

func wantForm(t *testing.T, what string, b []byte) {
	t.Helper()
	if wantDecode(t, b) {
		t.Errorf("the model takes %s", what)
	}
	if o, errno := obj.Decode(b); errno != api.ErrForm || !obj.Same(o, obj.Obj{}) {
		t.Errorf("Decode of %s: %d, %v", what, errno, o)
	}
}

// unhex is the bytes that pieces of digits stand for.
func unhex(t *testing.T, pieces ...string) []byte {
	t.Helper()
	b, err := hex.DecodeString(strings.Join(pieces, ""))
	if err != nil {
		t.Fatal(err)
	}
	return b
}

func TestDecodeOfNothing(t *testing.T) { // P6.1
	for _, b := range [][]byte{nil, {}} {
		if o, errno := obj.Decode(b); errno != api.ErrShort || !obj.Same(o, obj.Obj{}) {
			t.Errorf("%d, %v", errno, o)
		}
	}
}

func TestDecodeOfAllShort(t *testing.T) { // P6.1, P6.4
	all := make([]byte, 256)
	for i := range all {
		all[i] = byte(i)
	}
	runs := []struct {
		alphabet []byte
		longest  int
	}{{all, 2}, {[]byte{0, 1, 2, 3, 4, 0x61, 0x80, 0xff}, 4}}
	for _, run := range runs {
		texts := [][]byte{nil}
		for n := 0; n < len(texts); n++ {
			wantDecode(t, texts[n])
			for _, c := range run.alphabet {
				if len(texts[n]) < run.longest {
					texts = append(texts, append(slices.Clip(texts[n]), c))
				}
			}
		}
	}
}

func TestDecodeOfCounts(t *testing.T) { // P6.1
	// 2^56, and what is above it, and 0 and 1 written with more than they need.
	for _, n := range []string{"01", "02", "7f", "8002", "8102", "808080808080808001", "818080808080808001", "ffffffffffffffffff01", "8000", "8100", "80", "ffff", ""} {
		wantForm(t, "a tree of so many items", unhex(t, "02", n))
		wantForm(t, "a tree of so many items, and a name", unhex(t, "02", n, "0101"))
		wantForm(t, "a name of so many bytes", unhex(t, "0201", "01", n))
		wantForm(t, "a name of so many bytes, and no hash", unhex(t, "0201", "01", n, "61"))
		wantForm(t, "a message of so many bytes", unhex(t, "03", digit("1"), "000000", n))
		wantForm(t, "no stamp", unhex(t, "03", digit("1"), "00", n))
		wantForm(t, "no author", unhex(t, "03", digit("1"), "0000", n))
	}
	for _, n := range []string{"8000", "8100", "818000"} {
		wantForm(t, "a stamp of more bytes than it needs", unhex(t, "03", digit("1"), "00", n, "00", "00"))
		wantForm(t, "an author of more bytes than it needs", unhex(t, "03", digit("1"), "00", "00", n, "00"))
		wantForm(t, "a message's length of more bytes than it needs", unhex(t, "03", digit("1"), "000000", n, "61"))
		wantForm(t, "an item count of more bytes than it needs", unhex(t, "02", n, "010161", digit("1")))
		wantForm(t, "a name's length of more bytes than it needs", unhex(t, "0201", "01", n, "61", digit("1")))
	}
	for _, n := range []string{"03", "04", "80", "8000", "ff"} {
		wantForm(t, "a commit of so many parents", unhex(t, "03", digit("1"), n, digit("2"), digit("3"), digit("4"), digit("5"), "000000"))
		wantForm(t, "a commit of so many parents that aren't there", unhex(t, "03", digit("1"), n, "000000"))
	}
}

func TestDecodeOfWhatMayNotBe(t *testing.T) { // P6.1
	item := func(mode, name string) string {
		return mode + hex.EncodeToString([]byte{byte(len(name))}) + hex.EncodeToString([]byte(name)) + digit("1")
	}
	for what, b := range map[string][]byte{
		"a blob that is too long":  append([]byte{1}, make([]byte, 20001)...),
		"a tree with mode 0":       unhex(t, "0201", item("00", "a")),
		"a tree with mode 5":       unhex(t, "0201", item("05", "a")),
		"a tree with mode 255":     unhex(t, "0201", item("ff", "a")),
		"a tree with mode 129":     unhex(t, "0201", item("81", "a")),
		"a tree with no name":      unhex(t, "0201", item("01", "")),
		"a tree with a path":       unhex(t, "0201", item("01", "a/b")),
		"a tree with a dot":        unhex(t, "0201", item("01", ".")),
		"a tree that falls":        unhex(t, "0202", item("01", "b"), item("01", "a")),
		"a tree with a name twice": unhex(t, "0202", item("01", "a"), item("01", "a")),
		"a tree of too few items":  unhex(t, "0203", item("01", "a"), item("01", "b")),
		"a tree of too many items": unhex(t, "0201", item("01", "a"), item("01", "b")),
		"a tree of 257 items":      bytesOf(obj.Obj{Kind: obj.Tree, Items: manyItems(257)}),
		"a name of 65 bytes":       unhex(t, "0201", item("01", strings.Repeat("n", 65))),
		"parents that fall":        unhex(t, "03", digit("1"), "02", digit("5"), digit("4"), "000000"),
		"a parent twice":           unhex(t, "03", digit("1"), "02", digit("5"), digit("5"), "000000"),
		"three parents":            unhex(t, "03", digit("1"), "03", digit("2"), digit("3"), digit("4"), "000000"),
		"a stamp above 2^40":       unhex(t, "03", digit("1"), "00", "818080808020", "00", "00"),
		"a stamp of 2^56":          unhex(t, "03", digit("1"), "00", "808080808080808001", "00", "00"),
		"an author of 256":         unhex(t, "03", digit("1"), "00", "00", "8002", "00"),
		"an author of 2^32":        unhex(t, "03", digit("1"), "00", "00", "8080808010", "00"),
		"a message with an end":    unhex(t, "03", digit("1"), "000000", "010a"),
		"a message of 201 bytes":   bytesOf(obj.Obj{Kind: obj.Commit, Tree: digit("1"), Msg: strings.Repeat("m", 201)}),
		"kind 0":                   unhex(t, "006869"),
		"kind 4":                   unhex(t, "0400"),
		"kind 129":                 unhex(t, "816869"),
	} {
		wantForm(t, what, b)
	}
}

func TestDecodeOfGreatest(t *testing.T) { // P6.1, P6.4
	long := manyItems(256)
	for i := range long {
		long[i].Name = strings.Repeat("n", 61) + long[i].Name
	}
	for _, o := range []obj.Obj{
		{Kind: obj.Blob, Data: bytes.Repeat([]byte{0xff}, 20000)},
		{Kind: obj.Tree, Items: manyItems(127)},
		{Kind: obj.Tree, Items: manyItems(128)},
		{Kind: obj.Tree, Items: long},
		{Kind: obj.Commit, Tree: digit("f"), Parents: []string{digit("0"), digit("f")}, Stamp: 1 << 40, Author: 255, Msg: strings.Repeat("~", 200)},
	} {
		if b := bytesOf(o); !wantDecode(t, b) {
			t.Errorf("the model takes %.100x for none", b)
		}
	}
}

// Of the bytes of objects, all beginnings, and all that have a byte changed,
// a byte less or a byte more.
func TestDecodeOfChangedBytes(t *testing.T) { // P6.1, P6.4
	for _, o := range []obj.Obj{aBlob(), aTree(), aCommit(), {Kind: obj.Tree}, {Kind: obj.Commit, Tree: digit("0")}, {Kind: obj.Commit, Tree: digit("8"), Parents: []string{digit("e")}, Stamp: 128, Author: 200, Msg: "~"}} {
		whole := bytesOf(o)
		for n := range len(whole) + 1 {
			wantDecode(t, whole[:n])
			for c := range 256 {
				with := slices.Insert(slices.Clone(whole), n, byte(c))
				wantDecode(t, with)
				if n < len(whole) {
					wantDecode(t, slices.Delete(with, n+1, n+2))
				}
			}
			if n < len(whole) {
				wantDecode(t, slices.Delete(slices.Clone(whole), n, n+1))
			}
		}
	}
}

func TestDecodeOfRandomBytes(t *testing.T) { // P6.1, P6.4
	r := rand.New(rand.NewSource(62))
	runs := 20000
	if testing.Short() {
		runs = 2000
	}
	for range runs {
		b := bytesOf(randomObject(r))
		if !wantDecode(t, b) {
			t.Errorf("the model takes %x for none", b)
		}
		other := bytesOf(randomObject(r))
		from, to := r.Intn(len(b)+1), r.Intn(len(other)+1)
		wantDecode(t, slices.Concat(b[:from], other[to:]))
		wantDecode(t, slices.Concat(b, other[to:]))
	}
}

// Objects that aren't the same have bytes that aren't.
func TestBytesTellObjectsApart(t *testing.T) { // P6.4
	r := rand.New(rand.NewSource(63))
	of := map[string]obj.Obj{}
	for range 5000 {
		o := randomObject(r)
		b, errno := obj.Encode(o)
		if errno != api.OK {
			t.Fatalf("Encode of %v: %d", o, errno)
		}
		if was, ok := of[string(b)]; ok && !obj.Same(was, o) {
			t.Errorf("%v and %v: %x", was, o, b)
		}
		of[string(b)] = o
		if back, errno := obj.Decode(b); errno != api.OK || !obj.Same(back, o) {
			t.Errorf("Decode of Encode of %v: %d, %v", o, errno, back)
		}
	}
}
