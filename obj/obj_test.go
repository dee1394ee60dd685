package obj_test

import (
	"encoding/hex"
	"math"
	"slices"
	"strings"
	"testing"

	"marline/api"
	"marline/obj"
	"marline/sha"
)

// digit is a hash of one digit alone.
func digit(c string) string {
	return strings.Repeat(c, 64)
}

func aBlob() obj.Obj {
	return obj.Obj{Kind: obj.Blob, Data: []byte("hi")}
}

func aTree() obj.Obj {
	return obj.Obj{Kind: obj.Tree, Items: []obj.Item{
		{Mode: api.Plain, Name: "a", ID: digit("3")},
		{Mode: api.Exec, Name: "a-b", ID: digit("1")},
		{Mode: api.Link, Name: "b", ID: digit("3")},
		{Mode: api.Dir, Name: "ba", ID: digit("2")},
	}}
}

func aCommit() obj.Obj {
	return obj.Obj{Kind: obj.Commit, Tree: digit("9"), Parents: []string{digit("4"), digit("5")}, Stamp: 300, Author: 7, Msg: "a word"}
}

// each is an object of each kind, and of kinds that there are none of, with
// all fields filled.
func each() []obj.Obj {
	var l []obj.Obj
	for _, kind := range []int{0, 1, 2, 3, 4, -1, 257, math.MinInt, math.MaxInt} {
		o := aCommit()
		o.Kind, o.Data, o.Items = kind, aBlob().Data, aTree().Items
		l = append(l, o)
	}
	return l
}

// oneFieldChanged is o, each time with another field that is not as it was.
func oneFieldChanged(o obj.Obj) map[string]obj.Obj {
	change := func(f func(o *obj.Obj)) obj.Obj {
		c := o
		c.Data, c.Items, c.Parents = slices.Clone(o.Data), slices.Clone(o.Items), slices.Clone(o.Parents)
		f(&c)
		return c
	}
	return map[string]obj.Obj{
		"Kind":            change(func(c *obj.Obj) { c.Kind += 256 }),
		"more Data":       change(func(c *obj.Obj) { c.Data = append(c.Data, 0) }),
		"more Items":      change(func(c *obj.Obj) { c.Items = append(c.Items, obj.Item{}) }),
		"Tree":            change(func(c *obj.Obj) { c.Tree += "0" }),
		"more Parents":    change(func(c *obj.Obj) { c.Parents = append(c.Parents, "") }),
		"a greater Stamp": change(func(c *obj.Obj) { c.Stamp++ }),
		"a lesser Stamp":  change(func(c *obj.Obj) { c.Stamp -= 1 << 40 }),
		"Author":          change(func(c *obj.Obj) { c.Author += 256 }),
		"Msg":             change(func(c *obj.Obj) { c.Msg += " " }),
	}
}

func TestExamples(t *testing.T) { // P6.1
	for want, o := range map[string]obj.Obj{
		"016869":                  aBlob(),
		"01":                      {Kind: obj.Blob},
		"0200":                    {Kind: obj.Tree},
		"0201040161" + digit("a"): {Kind: obj.Tree, Items: []obj.Item{{Mode: api.Dir, Name: "a", ID: digit("a")}}},
		"03" + digit("b") + "00" + "00" + "00" + "00":                                              {Kind: obj.Commit, Tree: digit("b")},
		"03" + digit("9") + "02" + digit("4") + digit("5") + "ac02" + "07" + "06" + "6120776f7264": aCommit(),
		"03" + digit("0") + "01" + digit("f") + "808080808020" + "ff01" + "017e":                   {Kind: obj.Commit, Tree: digit("0"), Parents: []string{digit("f")}, Stamp: 1 << 40, Author: 255, Msg: "~"},
	} {
		b, errno := obj.Encode(o)
		if errno != api.OK || hex.EncodeToString(b) != want {
			t.Errorf("Encode: %d, %x, want %s", errno, b, want)
		}
		id, errno := obj.ID(o)
		if errno != api.OK || id != sha.ID(b) {
			t.Errorf("ID of %s: %d, %s", want, errno, id)
		}
		o2, errno := obj.Decode(b)
		if errno != api.OK || !obj.Same(o2, o) {
			t.Errorf("Decode of %s: %d, %v", want, errno, o2)
		}
	}
}

func TestIDs(t *testing.T) { // P6.1
	// Of 01 68 69 and of 02 00, as other programs work them out.
	for want, o := range map[string]obj.Obj{
		"5fab12722a8ba5aaef0c2b6e7c041834fdbb22b136ad50913b6a2e6ac3b974aa": aBlob(),
		"99be5efb88ca2013bd8e4eb035fd42d5245468fe9afa70d8ba9c1c419a48c4e8": {Kind: obj.Tree},
	} {
		if id, errno := obj.ID(o); errno != api.OK || id != want {
			t.Errorf("ID: %d, %s, want %s", errno, id, want)
		}
	}
}

func TestRefs(t *testing.T) { // P6.2
	odd := []obj.Item{{ID: "z"}, {Mode: 9, Name: "/", ID: ""}, {ID: "z"}, {ID: digit("A")}}
	for _, c := range []struct {
		o    obj.Obj
		want []string
	}{
		{aTree(), []string{digit("3"), digit("1"), digit("3"), digit("2")}},
		{aCommit(), []string{digit("9"), digit("4"), digit("5")}},
		{aBlob(), nil},
		{obj.Obj{}, nil},
		{obj.Obj{Kind: obj.Tree}, nil},
		{obj.Obj{Kind: obj.Commit}, []string{""}},
		{obj.Obj{Kind: obj.Tree, Items: odd}, []string{"z", "", "z", digit("A")}},
		{obj.Obj{Kind: obj.Commit, Tree: "t", Parents: []string{"z", "a", "z", "t", ""}}, []string{"t", "z", "a", "z", "t", ""}},
	} {
		if l := obj.Refs(c.o); !slices.Equal(l, c.want) {
			t.Errorf("Refs(%v) = %q", c.o, l)
		}
	}
}

func TestRefsGoByKind(t *testing.T) { // P6.2
	for _, o := range each() {
		var want []string
		switch o.Kind {
		case obj.Tree:
			want = obj.Refs(aTree())
		case obj.Commit:
			want = obj.Refs(aCommit())
		}
		if l := obj.Refs(o); !slices.Equal(l, want) {
			t.Errorf("Refs of kind %d = %q", o.Kind, l)
		}
	}
}

func TestSame(t *testing.T) { // P6.2
	all := append(each(), aBlob(), aTree(), aCommit(), obj.Obj{}, obj.Obj{Kind: obj.Blob}, obj.Obj{Kind: obj.Tree})
	for i, a := range all {
		for k, b := range append(each(), aBlob(), aTree(), aCommit(), obj.Obj{}, obj.Obj{Kind: obj.Blob}, obj.Obj{Kind: obj.Tree}) {
			if obj.Same(a, b) != (i == k) {
				t.Errorf("Same of %d and %d: %v", i, k, i != k)
			}
		}
		for field, b := range oneFieldChanged(a) {
			if obj.Same(a, b) || obj.Same(b, a) {
				t.Errorf("Same: kind %d, %s", a.Kind, field)
			}
		}
	}
}

func TestSameWithinLists(t *testing.T) { // P6.2
	for i, f := range []func(o *obj.Obj){
		func(o *obj.Obj) { o.Data[1]++ },
		func(o *obj.Obj) { o.Data = o.Data[:1] },
		func(o *obj.Obj) { o.Items[3].Mode = api.Plain },
		func(o *obj.Obj) { o.Items[0].Name = "A" },
		func(o *obj.Obj) { o.Items[1].ID = digit("7") },
		func(o *obj.Obj) { o.Items[0], o.Items[2] = o.Items[2], o.Items[0] },
		func(o *obj.Obj) { o.Items = o.Items[:3] },
		func(o *obj.Obj) { o.Parents[0] = digit("5") },
		func(o *obj.Obj) { slices.Reverse(o.Parents) },
		func(o *obj.Obj) { o.Parents = o.Parents[:1] },
	} {
		a, b := each()[3], each()[3]
		f(&b)
		if obj.Same(a, b) || obj.Same(b, a) || !obj.Same(b, b) {
			t.Errorf("case %d: %v, %v", i, a, b)
		}
	}
}

func TestNilIsTheEmptyList(t *testing.T) { // P0.4, P6.2
	for _, o := range []obj.Obj{{}, {Kind: obj.Blob}, {Kind: obj.Tree}, {Kind: obj.Commit, Tree: digit("1")}} {
		full := o
		full.Data, full.Items, full.Parents = []byte{}, []obj.Item{}, []string{}
		b, e := obj.Encode(o)
		c, f := obj.Encode(full)
		if !obj.Same(o, full) || !obj.Same(full, o) || obj.May(o) != obj.May(full) || e != f || string(b) != string(c) {
			t.Errorf("kind %d: %d %x, %d %x", o.Kind, e, b, f, c)
		}
	}
}
