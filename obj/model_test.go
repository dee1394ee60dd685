package obj_test

import (
	"bytes"
	"encoding/binary"
	"encoding/hex"
	"math/rand"
	"regexp"
	"slices"

	"marline/obj"
)

// What the chapter says of objects and their bytes, said in another way: by
// patterns, by the library's numbers, and by bytes that are read without care
// and then held against what they would be written as.

var (
	hashForm    = regexp.MustCompile(`^[0-9a-f]{64}$`)
	nameForm    = regexp.MustCompile(`^[!-.0-~]{1,64}$`)
	messageForm = regexp.MustCompile(`^[ -~]{0,200}$`)
)

func rises(l []string) bool {
	return slices.Equal(l, slices.Compact(slices.Sorted(slices.Values(l))))
}

func isItem(i obj.Item) bool {
	return slices.Contains([]int{1, 2, 3, 4}, i.Mode) && nameForm.MatchString(i.Name) && i.Name != "." && i.Name != ".." && hashForm.MatchString(i.ID)
}

func isObject(o obj.Obj) bool {
	data, items := len(o.Data), len(o.Items)
	ofCommits := o.Tree != "" || len(o.Parents) > 0 || o.Stamp != 0 || o.Author != 0 || o.Msg != ""
	var itemNames []string
	for _, i := range o.Items {
		itemNames = append(itemNames, i.Name)
	}
	switch o.Kind {
	case 1:
		return data <= 20000 && items == 0 && !ofCommits
	case 2:
		return items <= 256 && !slices.ContainsFunc(o.Items, func(i obj.Item) bool { return !isItem(i) }) && rises(itemNames) && data == 0 && !ofCommits
	case 3:
		hashes := append([]string{o.Tree}, o.Parents...)
		return !slices.ContainsFunc(hashes, func(id string) bool { return !hashForm.MatchString(id) }) && len(hashes) <= 3 && rises(o.Parents) &&
			o.Stamp >= 0 && o.Stamp <= 1099511627776 && o.Author >= 0 && o.Author <= 255 && messageForm.MatchString(o.Msg) && data == 0 && items == 0
	}
	return false
}

// bytesOf is the bytes of an object that may be, piece by piece.
func bytesOf(o obj.Obj) []byte {
	number := func(n int) []byte { return binary.AppendUvarint(nil, uint64(n)) }
	hash := func(id string) []byte { b, _ := hex.DecodeString(id); return b }
	pieces := [][]byte{{byte(o.Kind)}, o.Data}
	switch o.Kind {
	case 2:
		pieces = append(pieces, number(len(o.Items)))
		for _, i := range o.Items {
			pieces = append(pieces, []byte{byte(i.Mode)}, number(len(i.Name)), []byte(i.Name), hash(i.ID))
		}
	case 3:
		pieces = append(pieces, hash(o.Tree), []byte{byte(len(o.Parents))})
		for _, id := range o.Parents {
			pieces = append(pieces, hash(id))
		}
		pieces = append(pieces, number(o.Stamp), number(o.Author), number(len(o.Msg)), []byte(o.Msg))
	}
	return bytes.Join(pieces, nil)
}

// objectOf is the object whose bytes b are; false, if they are no one's.
func objectOf(b []byte) (obj.Obj, bool) {
	o := careless(bytes.NewBuffer(bytes.Clone(b)))
	if !isObject(o) || !bytes.Equal(bytesOf(o), b) {
		return obj.Obj{}, false
	}
	return o, true
}

func careless(b *bytes.Buffer) obj.Obj {
	octet := func() int { c, _ := b.ReadByte(); return int(c) }
	number := func() int { n, _ := binary.ReadUvarint(b); return int(min(n, 1<<60)) }
	text := func() string { return string(b.Next(min(number(), b.Len()))) }
	hash := func() string { return hex.EncodeToString(b.Next(32)) }
	o := obj.Obj{Kind: octet()}
	switch o.Kind {
	case 1:
		o.Data = bytes.Clone(b.Bytes())
	case 2:
		for range min(number(), 300) {
			mode, name := octet(), text()
			o.Items = append(o.Items, obj.Item{Mode: mode, Name: name, ID: hash()})
		}
	case 3:
		o.Tree = hash()
		for range octet() {
			o.Parents = append(o.Parents, hash())
		}
		o.Stamp, o.Author = number(), number()
		o.Msg = text()
	}
	return o
}

func randomText(r *rand.Rand, alphabet string, longest int) string {
	b := make([]byte, r.Intn(longest+1))
	for i := range b {
		b[i] = alphabet[r.Intn(len(alphabet))]
	}
	return string(b)
}

func randomHash(r *rand.Rand) string {
	b := make([]byte, 32)
	r.Read(b)
	return hex.EncodeToString(b)
}

// randomObject is one that may be.
func randomObject(r *rand.Rand) obj.Obj {
	o := obj.Obj{Kind: 1 + r.Intn(3)}
	switch o.Kind {
	case 1:
		o.Data = []byte(randomText(r, "\x00\x01\x02\x03ab\x80\xff", r.Intn(300)))
	case 2:
		var itemNames []string
		for range r.Intn(8) {
			itemNames = append(itemNames, "x"+randomText(r, "ab-.~!", r.Intn(64)))
		}
		for _, name := range slices.Compact(slices.Sorted(slices.Values(itemNames))) {
			o.Items = append(o.Items, obj.Item{Mode: 1 + r.Intn(4), Name: name, ID: randomHash(r)})
		}
	case 3:
		o.Tree = randomHash(r)
		for range r.Intn(3) {
			o.Parents = append(o.Parents, randomHash(r))
		}
		slices.Sort(o.Parents)
		o.Stamp, o.Author = r.Intn(1+1<<(4*r.Intn(11))), r.Intn(256)
		o.Msg = randomText(r, " ab~", r.Intn(201))
	}
	return o
}
