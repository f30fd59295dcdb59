package node_test

import (
	"bytes"
	"crypto/sha256"
	"encoding/binary"
	"encoding/hex"
	"fmt"
	"math"
	"math/rand/v2"
	"slices"
	"strings"
	"testing"
	"time"
	"unsafe"

	"silo/api"
	"silo/keys"
	"silo/node"
)

// What the chapter names.
const (
	mostPiece   = 4096
	mostParts   = 1024
	mostFile    = 32768
	mostEntries = 60
	keySize     = 32
)

// What a kind is as a number.
const (
	pieceKind = 1
	fileKind  = 2
	dirKind   = 3
)

func text(n int) string { return strings.Repeat("x", n) }

// key is a key of one byte, again and again.
func key(b byte) string { return strings.Repeat(string([]byte{b}), keySize) }

func piece(data string) api.Node { return api.Node{Kind: pieceKind, Data: data} }

func file(l ...api.Part) api.Node { return api.Node{Kind: fileKind, Parts: l} }

func dir(l ...api.Entry) api.Node { return api.Node{Kind: dirKind, Entries: l} }

func part(b byte, size int) api.Part { return api.Part{Key: key(b), Size: size} }

func plain(name string, b byte) api.Entry {
	return api.Entry{Name: name, Kind: fileKind, Key: key(b)}
}

func program(name string, b byte) api.Entry {
	return api.Entry{Name: name, Kind: fileKind, Exec: true, Key: key(b)}
}

func below(name string, b byte) api.Entry {
	return api.Entry{Name: name, Kind: dirKind, Key: key(b)}
}

// parts is n parts of so many bytes each.
func parts(n, size int) []api.Part {
	var l []api.Part
	for i := range n {
		l = append(l, part(byte(i), size))
	}
	return l
}

// entries is n entries, a directory, a file and one that can be run by turns.
func entries(n int) []api.Entry {
	var l []api.Entry
	for i := range n {
		x := plain(fmt.Sprintf("m%04d", i), byte(i))
		x.Exec = i%3 == 2
		if i%3 == 0 {
			x.Kind = dirKind
		}
		l = append(l, x)
	}
	return l
}

// short is a node in words that can be read in a failure.
func short(n api.Node) string {
	var out strings.Builder
	fmt.Fprintf(&out, "{kind %d, %.10q/%d", n.Kind, n.Data, len(n.Data))
	for i, x := range n.Parts {
		if i == 4 {
			fmt.Fprintf(&out, ", and %d more", len(n.Parts)-i)
			break
		}
		fmt.Fprintf(&out, ", part %.4x/%d of %d", x.Key, len(x.Key), x.Size)
	}
	for i, x := range n.Entries {
		if i == 4 {
			fmt.Fprintf(&out, ", and %d more", len(n.Entries)-i)
			break
		}
		fmt.Fprintf(&out, ", entry %.40q kind %d exec %v %.4x/%d", x.Name, x.Kind, x.Exec, x.Key, len(x.Key))
	}
	return out.String() + "}"
}

// isName is what chapter 9 says a name is.
func isName(s string) bool {
	return len(s) >= 1 && len(s) <= 31 && s != "." && s != ".." && !strings.Contains(s, "/") && !strings.Contains(s, "\x00")
}

// fitParts is what the chapter says of a file's parts.
func fitParts(l []api.Part) bool {
	all := 0
	for _, x := range l {
		if len(x.Key) != keySize || x.Size < 1 || x.Size > mostPiece {
			return false
		}
		all += x.Size
	}
	return len(l) <= mostParts && all <= mostFile
}

// fitEntries is what the chapter says of a directory's entries.
func fitEntries(l []api.Entry) bool {
	last := ""
	for _, x := range l {
		if !isName(x.Name) || x.Name <= last || len(x.Key) != keySize {
			return false
		}
		if x.Kind != fileKind && x.Kind != dirKind || x.Exec && x.Kind != fileKind {
			return false
		}
		last = x.Name
	}
	return len(l) <= mostEntries
}

// isFit is what the chapter says of a node.
func isFit(n api.Node) bool {
	switch n.Kind {
	case pieceKind:
		return len(n.Data) >= 1 && len(n.Data) <= mostPiece && len(n.Parts) == 0 && len(n.Entries) == 0
	case fileKind:
		return n.Data == "" && fitParts(n.Parts) && len(n.Entries) == 0
	case dirKind:
		return n.Data == "" && len(n.Parts) == 0 && fitEntries(n.Entries)
	}
	return false
}

// raw is a node's bytes as the chapter words them, whether it is fit or not.
func raw(n api.Node) string {
	out := []byte{byte(n.Kind)}
	switch n.Kind {
	case pieceKind:
		out = append(out, n.Data...)
	case fileKind:
		out = binary.AppendUvarint(out, uint64(len(n.Parts)))
		for _, x := range n.Parts {
			out = binary.AppendUvarint(append(out, x.Key...), uint64(x.Size))
		}
	case dirKind:
		out = binary.AppendUvarint(out, uint64(len(n.Entries)))
		for _, x := range n.Entries {
			out = append(binary.AppendUvarint(out, uint64(len(x.Name))), x.Name...)
			kind := byte(x.Kind)
			if x.Exec {
				kind += 4
			}
			out = append(append(out, kind), x.Key...)
		}
	}
	return string(out)
}

// slowWrite is P11.2's Write as the chapter words it.
func slowWrite(n api.Node) string {
	if !isFit(n) {
		return ""
	}
	return raw(n)
}

// guess is the only node that can be these bytes, if one is.
func guess(s string) (n api.Node) {
	in := bytes.NewBufferString(s)
	first, _ := in.ReadByte()
	n.Kind = int(first)
	if n.Kind == pieceKind {
		n.Data = in.String()
		return n
	}
	count, _ := binary.ReadUvarint(in)
	for i := uint64(0); i < count && in.Len() > 0; i++ {
		if n.Kind == fileKind {
			x := api.Part{Key: string(in.Next(keySize))}
			size, _ := binary.ReadUvarint(in)
			x.Size = int(size)
			n.Parts = append(n.Parts, x)
			continue
		}
		size, _ := binary.ReadUvarint(in)
		x := api.Entry{Name: string(in.Next(int(min(size, 100))))}
		kind, _ := in.ReadByte()
		x.Kind, x.Exec = int(kind&3), kind&4 != 0
		x.Key = string(in.Next(keySize))
		n.Entries = append(n.Entries, x)
	}
	return n
}

// slowRead is P11.2's Read as the chapter words it: bytes are those of a fit node, or of none.
func slowRead(s string) (api.Node, api.Errno) {
	n := guess(s)
	if s == "" || slowWrite(n) != s {
		return api.Node{}, api.ErrForm
	}
	return n, api.OK
}

// same holds two nodes against each other, field by field.
func same(a, b api.Node) bool {
	if a.Kind != b.Kind || a.Data != b.Data || len(a.Parts) != len(b.Parts) || len(a.Entries) != len(b.Entries) {
		return false
	}
	for i, x := range a.Parts {
		y := b.Parts[i]
		if x.Key != y.Key || x.Size != y.Size {
			return false
		}
	}
	for i, x := range a.Entries {
		y := b.Entries[i]
		if x.Name != y.Name || x.Kind != y.Kind || x.Exec != y.Exec || x.Key != y.Key {
			return false
		}
	}
	return true
}

// copied is a node that shares no list with another one.
func copied(n api.Node) api.Node {
	n.Parts, n.Entries = slices.Clone(n.Parts), slices.Clone(n.Entries)
	return n
}

// sum is a text's sum, as the library tells it.
func sum(s string) string {
	b := sha256.Sum256([]byte(s))
	return string(b[:])
}

// slowKey is P11.3's Key as the chapter words it.
func slowKey(n api.Node) string {
	if !isFit(n) {
		return ""
	}
	return sum(raw(n))
}

// slowKids is P11.3's Kids as the chapter words it.
func slowKids(n api.Node) []string {
	known := map[string]int{}
	for _, x := range n.Parts {
		known[x.Key]++
	}
	for _, x := range n.Entries {
		known[x.Key]++
	}
	var out []string
	for k := range known {
		if len(k) == keySize {
			out = append(out, k)
		}
	}
	slices.Sort(out)
	return out
}

// holdsNode holds all calls of a node against the chapter, and the node against what it was.
func holdsNode(t *testing.T, n api.Node) {
	t.Helper()
	given := copied(n)
	if got := node.Fit(n); got != isFit(n) {
		t.Fatalf("Fit(%s) = %v", short(n), got)
	}
	s := node.Write(n)
	if s != slowWrite(n) {
		t.Fatalf("Write(%s) = %.80x, not %.80x", short(n), s, slowWrite(n))
	}
	if got := node.Key(n); got != slowKey(n) {
		t.Fatalf("Key(%s) = %x, not %x", short(n), got, slowKey(n))
	}
	kids := node.Kids(n)
	if !slices.Equal(kids, slowKids(n)) || !keys.Fit(kids) {
		t.Fatalf("Kids(%s) = %x", short(n), kids)
	}
	if back, err := node.Read(s); isFit(n) && (err != api.OK || !same(back, n) || !node.Same(back, n)) {
		t.Fatalf("Read of Write of %s = %s, %v", short(n), short(back), err)
	}
	if !node.Same(n, given) || !same(n, given) {
		t.Fatalf("%s has become %s", short(given), short(n))
	}
}

// holdsRead holds Read against the chapter, and what it tells against the bytes.
func holdsRead(t *testing.T, s string) api.Errno {
	t.Helper()
	want, why := slowRead(s)
	got, err := node.Read(s)
	if err != why || !same(got, want) {
		t.Fatalf("Read(%.80x) = %s, %v, not %s, %v", s, short(got), err, short(want), why)
	}
	if err != api.OK && (got.Parts != nil || got.Entries != nil) {
		t.Fatalf("Read(%.80x) tells lists beside an error", s)
	}
	if err == api.OK && (!node.Fit(got) || node.Write(got) != s) {
		t.Fatalf("Write of Read of %.80x = %.80x", s, node.Write(got))
	}
	return err
}

// fitNodes are nodes that are fit, at all edges that the chapter names.
func fitNodes() []api.Node {
	return []api.Node{
		piece("a"), piece("\x00"), piece("\xff\x00\x02"), piece(text(100)), piece(text(4095)), piece(text(4096)), piece("\x02\x00"), piece("/../"),
		file(), {Kind: fileKind, Parts: []api.Part{}, Entries: []api.Entry{}}, file(part(0, 1)), file(part(255, 4096)), file(part(1, 127)), file(part(1, 128)),
		file(part(2, 5), part(1, 6)), file(part(1, 5), part(1, 5), part(1, 7)), file(parts(8, 4096)...), file(parts(127, 3)...), file(parts(128, 200)...),
		file(append(parts(7, 4096), part(9, 4095), part(9, 1))...), file(parts(1023, 1)...), file(parts(1024, 1)...), file(parts(1024, 32)...),
		dir(), {Kind: dirKind, Parts: []api.Part{}, Entries: []api.Entry{}}, dir(plain("a", 1)), dir(program("a", 1)), dir(below("a", 1)), dir(plain("\x01", 0), plain("...", 0)),
		dir(plain("B", 9), below("a", 8), program("a-", 7), plain("a.b", 7), plain("aa", 7), plain("b", 0), plain("\xff", 3)),
		dir(plain(text(31), 1)), dir(below(text(30), 1), program(text(31), 1)), dir(entries(59)...), dir(entries(60)...), dir(plain("..a", 2), plain(".a", 1)),
	}
}

// unfitNodes are nodes that are not fit by one thing alone.
func unfitNodes() []api.Node {
	var l []api.Node
	for _, kind := range []int{0, 4, 5, 6, 7, -1, -2, -3, 255, 256, 257, 258, 259, 1<<32 + 1, 1<<32 + 2, math.MinInt, math.MaxInt} {
		l = append(l, api.Node{Kind: kind}, api.Node{Kind: kind, Data: "a"}, api.Node{Kind: kind, Parts: parts(1, 1)}, api.Node{Kind: kind, Entries: entries(1)})
	}
	l = append(l,
		piece(""), piece(text(4097)), piece(text(65536)), api.Node{Kind: pieceKind, Data: "a", Parts: parts(1, 1)}, api.Node{Kind: pieceKind, Data: "a", Entries: entries(1)},
		api.Node{Kind: fileKind, Data: "a"}, api.Node{Kind: fileKind, Entries: entries(1)}, api.Node{Kind: fileKind, Data: "a", Parts: parts(1, 1)}, api.Node{Kind: fileKind, Parts: parts(1, 1), Entries: entries(1)},
		api.Node{Kind: dirKind, Data: "a"}, api.Node{Kind: dirKind, Parts: parts(1, 1)}, api.Node{Kind: dirKind, Data: "a", Entries: entries(1)}, api.Node{Kind: dirKind, Parts: parts(1, 1), Entries: entries(1)},
		file(parts(1025, 1)...), file(parts(1024, 33)...), file(parts(9, 4096)...), file(append(parts(8, 4096), part(1, 1))...), file(append(parts(1023, 32), part(1, 33))...),
		dir(entries(61)...), dir(entries(1000)...), dir(plain("b", 1), plain("a", 1)), dir(plain("a", 1), plain("a", 1)), dir(plain("a", 1), below("a", 2)),
		dir(plain("a", 1), plain("B", 1)), dir(plain("aa", 1), plain("a", 1)), dir(plain("\xff", 1), plain("z", 1)),
		dir(plain("a", 1), plain("c", 1), plain("b", 1)), dir(plain("a", 1), plain("b", 1), plain("b", 1)), dir(plain("b", 1), plain("c", 1), plain("a", 1), plain("d", 1)),
	)
	for _, size := range []int{0, -1, 4097, 65536, math.MinInt, math.MaxInt, 1<<32 + 1} {
		l = append(l, file(part(1, size)), file(part(1, 1), part(1, size), part(2, 1)), file(part(1, size), part(1, 1-size)))
	}
	for _, k := range []string{"", "k", text(31), text(33), text(64), text(4096)} {
		l = append(l, file(api.Part{Key: k, Size: 1}), file(part(1, 1), api.Part{Key: k, Size: 1}), dir(api.Entry{Name: "a", Kind: fileKind, Key: k}), dir(plain("A", 1), api.Entry{Name: "a", Kind: dirKind, Key: k}))
	}
	for _, name := range []string{"", ".", "..", "/", "a/b", "a/", "/a", "a\x00", "\x00", text(32), text(4096), "../a"} {
		l = append(l, dir(plain(name, 1)), dir(below(name, 1)), dir(plain("\x01", 1), program(name, 1)))
	}
	for _, kind := range []int{0, 1, 4, 5, 6, 7, 8, 10, 11, -1, -2, 255, 258, 259, 1<<32 + 2, math.MinInt, math.MaxInt} {
		l = append(l, dir(api.Entry{Name: "a", Kind: kind, Key: key(1)}), dir(api.Entry{Name: "a", Kind: kind, Exec: true, Key: key(1)}), dir(plain("A", 1), api.Entry{Name: "a", Kind: kind, Key: key(1)}))
	}
	return append(l, dir(api.Entry{Name: "a", Kind: dirKind, Exec: true, Key: key(1)}), dir(program("A", 2), api.Entry{Name: "a", Kind: dirKind, Exec: true, Key: key(1)}))
}

// TestExample: the chapter's examples.
func TestExample(t *testing.T) {
	if got := node.Write(api.Node{Kind: api.NdPiece, Data: "a"}); got != "\x01a" {
		t.Errorf("Write of a piece a = %x", got)
	}
	if got := node.Write(api.Node{Kind: api.NdFile}); got != "\x02\x00" {
		t.Errorf("Write of a file without parts = %x", got)
	}
	got, err := node.Read("\x03\x00")
	if got.Kind != api.NdDir || got.Data != "" || got.Parts != nil || got.Entries != nil || err != api.OK {
		t.Errorf("Read of 03 00 = %s, %v", short(got), err)
	}
}

// TestFit: P11.1, and P11.2 and P11.3 of the same, nodes that are fit, and what is none by one thing alone.
func TestFit(t *testing.T) {
	for _, n := range fitNodes() {
		if !node.Fit(n) || node.Write(n) == "" || node.Key(n) == "" {
			t.Errorf("%s is not fit, or is not written, or has no key", short(n))
		}
		holdsNode(t, n)
	}
	for _, n := range unfitNodes() {
		if node.Fit(n) || node.Write(n) != "" || node.Key(n) != "" {
			t.Errorf("%s is fit, or is written, or has a key", short(n))
		}
		holdsNode(t, n)
	}
}

// TestFitMixed: P11.1 to P11.3, all that is made of some kinds, bytes, parts and entries.
func TestFitMixed(t *testing.T) {
	fits := 0
	for kind := -1; kind <= 8; kind++ {
		for _, data := range []string{"", "d", text(4096), text(4097)} {
			for _, l := range [][]api.Part{nil, {}, parts(1, 1), parts(2, 0), {{}}, {part(3, 1), {Key: "k", Size: 1}, part(2, 1)}} {
				for _, m := range [][]api.Entry{nil, {}, entries(1), entries(3), {{}}, {plain("b", 2), plain("a", 3)}, {plain("a", 3), {Name: "b", Kind: 2, Key: "l"}}} {
					n := api.Node{Kind: kind, Data: data, Parts: l, Entries: m}
					holdsNode(t, n)
					if node.Fit(n) {
						fits++
					}
				}
			}
		}
	}
	// Pieces: 2 of bytes, 2 without parts, 2 without entries; files: 3 of parts, 2 without entries; directories: 4 of entries, 2 without parts.
	if fits != 8+6+8 {
		t.Errorf("%d nodes are fit", fits)
	}
}

// TestFitSpoilt: P11.1, the greatest file and directory, spoilt at each place by one thing.
func TestFitSpoilt(t *testing.T) {
	whole := file(parts(1024, 31)...)
	for i := range whole.Parts {
		for name, spoil := range map[string]func(x *api.Part){
			"no byte":        func(x *api.Part) { x.Size = 0 },
			"too many bytes": func(x *api.Part) { x.Size = 4097 },
			"no key":         func(x *api.Part) { x.Key = "" },
			"a short key":    func(x *api.Part) { x.Key = x.Key[1:] },
			"a long key":     func(x *api.Part) { x.Key += "x" },
			"all too many":   func(x *api.Part) { x.Size += 1025 },
		} {
			n := copied(whole)
			spoil(&n.Parts[i])
			if node.Fit(n) || node.Write(n) != "" {
				t.Errorf("a file with %s at %d is fit", name, i)
			}
		}
		n := copied(whole)
		n.Parts[i].Size += 1024
		if !node.Fit(n) {
			t.Errorf("a file with 32768 bytes, more of them at %d, is not fit", i)
		}
	}
	most := dir(entries(60)...)
	for i := range most.Entries {
		for name, spoil := range map[string]func(x *api.Entry){
			"no name":                      func(x *api.Entry) { x.Name = "" },
			"a long name":                  func(x *api.Entry) { x.Name += text(27) },
			"a name that is none":          func(x *api.Entry) { x.Name += "/" },
			"a name that does not rise":    func(x *api.Entry) { x.Name = most.Entries[(i+59)%60].Name },
			"a name that rises too far":    func(x *api.Entry) { x.Name = most.Entries[(i+1)%60].Name },
			"a short key":                  func(x *api.Entry) { x.Key = x.Key[1:] },
			"a long key":                   func(x *api.Entry) { x.Key += "x" },
			"the kind of a piece":          func(x *api.Entry) { x.Kind = pieceKind },
			"no kind":                      func(x *api.Entry) { x.Kind = 0 },
			"a directory that can be run":  func(x *api.Entry) { x.Kind, x.Exec = dirKind, true },
			"a kind that says it is run":   func(x *api.Entry) { x.Kind, x.Exec = 6, false },
			"a kind that is not of a byte": func(x *api.Entry) { x.Kind += 256 },
		} {
			n := copied(most)
			spoil(&n.Entries[i])
			if node.Fit(n) || node.Write(n) != "" {
				t.Errorf("a directory with %s at %d is fit", name, i)
			}
		}
	}
}

// TestSame: P11.1, all pairs of nodes, fit or not.
func TestSame(t *testing.T) {
	all := append(fitNodes(), unfitNodes()...)
	all = append(all, api.Node{}, api.Node{Parts: []api.Part{{}}}, api.Node{Entries: []api.Entry{{}}}, api.Node{Parts: []api.Part{{}, {}}})
	for _, a := range all {
		for _, b := range all {
			if got := node.Same(a, b); got != same(a, b) {
				t.Fatalf("Same(%s, %s) = %v", short(a), short(b), got)
			}
		}
		if !node.Same(a, copied(a)) {
			t.Fatalf("%s and its copy are not the same", short(a))
		}
	}
}

// TestSameField: P11.1, two nodes that are unlike in one field, of the node or of a part or entry at each place.
func TestSameField(t *testing.T) {
	whole := api.Node{Kind: 9, Data: text(300), Parts: parts(100, 7), Entries: entries(100)}
	unlike := func(name string, at int, turn func(n *api.Node)) {
		t.Helper()
		other := copied(whole)
		turn(&other)
		if node.Same(whole, other) || node.Same(other, whole) {
			t.Errorf("with another %s at %d they are the same", name, at)
		}
	}
	unlike("Kind", 0, func(n *api.Node) { n.Kind = 10 })
	unlike("Data", 0, func(n *api.Node) { n.Data = n.Data[1:] + "y" })
	unlike("Data that is less", 0, func(n *api.Node) { n.Data = n.Data[1:] })
	unlike("list of parts", 0, func(n *api.Node) { n.Parts = nil })
	unlike("list of entries", 0, func(n *api.Node) { n.Entries = nil })
	for i := range 100 {
		unlike("Key of a part", i, func(n *api.Node) { n.Parts[i].Key = key(200) })
		unlike("Size", i, func(n *api.Node) { n.Parts[i].Size++ })
		unlike("Name", i, func(n *api.Node) { n.Entries[i].Name += "x" })
		unlike("Kind of an entry", i, func(n *api.Node) { n.Entries[i].Kind ^= 1 })
		unlike("Exec", i, func(n *api.Node) { n.Entries[i].Exec = !n.Entries[i].Exec })
		unlike("Key of an entry", i, func(n *api.Node) { n.Entries[i].Key = key(200) })
		unlike("end of the parts", i, func(n *api.Node) { n.Parts = n.Parts[:i] })
		unlike("end of the entries", i, func(n *api.Node) { n.Entries = n.Entries[:i] })
		unlike("part less", i, func(n *api.Node) { n.Parts = slices.Delete(n.Parts, i, i+1) })
		unlike("entry less", i, func(n *api.Node) { n.Entries = slices.Delete(n.Entries, i, i+1) })
	}
}

// written is a node, its bytes and its key, as they were worked out outside the program.
type written struct {
	n        api.Node
	raw, key string
}

// writtenNodes are nodes at the edges of what a number's bytes are; a key that was not worked out is empty.
func writtenNodes() []written {
	one, two := strings.Repeat("11", 32), strings.Repeat("22", 32)
	return []written{
		{piece("a"), "0161", "e3254ea61c09ead5a01d3bf07e946a561c6c2cd1c46b8ca1bfa8729d26a7d09f"},
		{piece("\x00"), "0100", "47dc540c94ceb704a23875c11273e16bb0b8a87aed84de911f2133568115f254"},
		{piece("\x02\x00\xff"), "010200ff", ""},
		{piece(text(4096)), "01" + strings.Repeat("78", 4096), "c968b74e395fc657a188b1c056c15fc75c5946c90c6828d30ccaa1da8ef7ea85"},
		{file(), "0200", "99be5efb88ca2013bd8e4eb035fd42d5245468fe9afa70d8ba9c1c419a48c4e8"},
		{file(part(0x11, 1)), "0201" + one + "01", ""},
		{file(part(0x11, 5), part(0x22, 300)), "0202" + one + "05" + two + "ac02", "6a630a6b4bf86a28eaf687374b229d0ac5145c8973b6393d954cb4c3771ee29e"},
		{file(part(0x22, 127), part(0x11, 128), part(0x22, 4096)), "0203" + two + "7f" + one + "8001" + two + "8020", ""},
		{file(slices.Repeat(parts(1, 1), 127)...), "027f" + strings.Repeat(strings.Repeat("00", 32)+"01", 127), ""},
		{file(slices.Repeat(parts(1, 1), 128)...), "028001" + strings.Repeat(strings.Repeat("00", 32)+"01", 128), ""},
		{file(slices.Repeat(parts(1, 32), 1024)...), "028008" + strings.Repeat(strings.Repeat("00", 32)+"20", 1024), ""},
		{dir(), "0300", "9b4fb24edd6d1d8830e272398263cdbf026b97392cc35387b991dc0248a628f9"},
		{dir(plain("a", 0x11)), "0301" + "0161" + "02" + one, ""},
		{dir(program("a", 0x11)), "0301" + "0161" + "06" + one, "08dec4952cdeff268ef85cbdfa82db6a8c6cfa50dbe3d34ac95d89d7362721e7"},
		{dir(below("a", 0x11)), "0301" + "0161" + "03" + one, ""},
		{dir(below("B", 0x11), plain("ab", 0x22)), "0302" + "0142" + "03" + one + "026162" + "02" + two, "ca1a13aa07cc073ee54e51a6ff157a760f74e53b01a29f34ce4be8b029afc124"},
		{dir(program(text(31), 0x22)), "0301" + "1f" + strings.Repeat("78", 31) + "06" + two, ""},
	}
}

// TestWriteWorkedOut: P11.2 to P11.4, bytes and keys that were worked out outside the program.
func TestWriteWorkedOut(t *testing.T) {
	for _, c := range writtenNodes() {
		if got := hex.EncodeToString([]byte(node.Write(c.n))); got != c.raw {
			t.Errorf("Write(%s) = %.100s, not %.100s", short(c.n), got, c.raw)
		}
		s, _ := hex.DecodeString(c.raw)
		if got, err := node.Read(string(s)); !same(got, c.n) || err != api.OK {
			t.Errorf("Read(%.100s) = %s, %v, not %s", c.raw, short(got), err, short(c.n))
		}
		if got := hex.EncodeToString([]byte(node.Key(c.n))); c.key != "" && got != c.key {
			t.Errorf("Key(%s) = %s, not %s", short(c.n), got, c.key)
		}
		holdsNode(t, c.n)
	}
}

// TestKey: P11.3, each thing that is told of a node makes another key.
func TestKey(t *testing.T) {
	known := map[string]api.Node{}
	for _, n := range append(fitNodes(), file(part(1, 2)), file(part(2, 1)), dir(plain("b", 1)), dir(plain("a", 2)), piece("b"), piece("aa")) {
		k := node.Key(n)
		if len(k) != keySize || k != sum(node.Write(n)) {
			t.Errorf("Key(%s) = %x", short(n), k)
		}
		if other, there := known[k]; there && !same(other, n) {
			t.Errorf("%s and %s have one key", short(other), short(n))
		}
		known[k] = n
	}
}

// TestKids: P11.3 and P11.5, as told by hand, of nodes that are fit or not.
func TestKids(t *testing.T) {
	odd := []api.Part{{Key: "", Size: 1}, {Key: text(31), Size: 1}, {Key: text(33), Size: 1}, part(7, 0), {Key: text(32), Size: -1}, {Key: text(64)}}
	for _, c := range []struct {
		n    api.Node
		want []string
	}{
		{piece("a"), nil}, {piece(key(1)), nil}, {piece(text(4096)), nil}, {file(), nil}, {dir(), nil}, {api.Node{}, nil},
		{file(part(3, 1)), []string{key(3)}},
		{file(part(3, 1), part(1, 1), part(2, 1)), []string{key(1), key(2), key(3)}},
		{file(part(3, 1), part(1, 1), part(3, 2), part(3, 1), part(1, 9)), []string{key(1), key(3)}},
		{file(part(255, 1), part(128, 1), part(127, 1), part(0, 1)), []string{key(0), key(127), key(128), key(255)}},
		{dir(plain("a", 9), below("b", 5), program("c", 7)), []string{key(5), key(7), key(9)}},
		{dir(plain("a", 5), below("b", 5), program("c", 5)), []string{key(5)}},
		{file(odd...), []string{key(7), text(32)}},
		{dir(api.Entry{Key: "k"}, api.Entry{Key: key(4)}, api.Entry{Name: "//", Key: key(2)}, api.Entry{}), []string{key(2), key(4)}},
		{api.Node{Parts: parts(2, 0), Entries: []api.Entry{{Key: key(1)}, {Key: key(200)}, {Key: "no key"}}}, []string{key(0), key(1), key(200)}},
	} {
		if got := node.Kids(c.n); !slices.Equal(got, c.want) || !keys.Fit(got) {
			t.Errorf("Kids(%s) = %x", short(c.n), got)
		}
		holdsNode(t, c.n)
	}
	if got := node.Kids(dir(entries(60)...)); len(got) != 60 {
		t.Errorf("60 entries name %d keys", len(got))
	}
	if got := node.Kids(file(parts(1024, 1)...)); len(got) != 256 {
		t.Errorf("1024 parts of 256 keys name %d keys", len(got))
	}
}

// TestReadShort: P11.2 and P11.4, all texts of up to two bytes, and longer ones of some bytes.
func TestReadShort(t *testing.T) {
	fits := 0
	try := func(s string) {
		if holdsRead(t, s) == api.OK {
			fits++
		}
	}
	try("")
	for a := range 256 {
		try(string([]byte{byte(a)}))
		for b := range 256 {
			try(string([]byte{byte(a), byte(b)}))
		}
	}
	// 256 pieces of one byte, a file and a directory of nothing.
	if fits != 258 {
		t.Errorf("%d texts of up to two bytes are nodes", fits)
	}
	last := []string{"\x02", "\x03"}
	for range 5 {
		var longer []string
		for _, s := range last {
			for _, b := range []byte{0, 1, 2, 3, 6, 'a', 127, 128, 129, 255} {
				longer = append(longer, s+string([]byte{b}))
			}
		}
		for _, s := range longer {
			try(s)
		}
		last = longer
	}
}

// TestReadParts: P11.2, texts that are put together of what nodes are made of, in any order.
func TestReadParts(t *testing.T) {
	met := map[api.Errno]int{}
	some := []string{"\x00", "\x01", "\x02", "\x03", "\x06", "\x07", "\x01a", "\x01b", "\x81\x00", key(0), key('x'), text(31)}
	last := []string{"\x02", "\x03"}
	for range 5 {
		var longer []string
		for _, s := range last {
			for _, more := range some {
				longer = append(longer, s+more)
			}
		}
		for _, s := range longer {
			met[holdsRead(t, s)]++
		}
		last = longer
	}
	if met[api.OK] < 20 || met[api.ErrForm] == 0 {
		t.Errorf("met %v", met)
	}
}

// TestReadSpoilt: P11.2 and P11.4, bytes of nodes that are cut, or longer, or have another byte, one more or one less, at each place.
func TestReadSpoilt(t *testing.T) {
	for _, n := range []api.Node{
		piece("ab"), file(), dir(), file(part(0x11, 1), part(0x22, 300)), file(parts(3, 4096)...), dir(program("a", 0x11), plain("b", 0x22)),
		dir(below("a", 1), plain("a-", 2), program("ab", 3)), dir(plain(text(31), 0)), file(parts(128, 1)...), dir(entries(60)...),
	} {
		s := node.Write(n)
		for i := range len(s) {
			if holdsRead(t, s[:i]) == api.OK && n.Kind != pieceKind {
				t.Errorf("%d bytes of %s are a node", i, short(n))
			}
			if len(s) > 300 && i > 40 && i < len(s)-40 && i%37 != 0 {
				continue
			}
			holdsRead(t, s[i:])
			holdsRead(t, s[:i]+s[i+1:])
			for _, b := range []byte{0, 1, 2, 3, 6, '/', 'a', 127, 128, 255} {
				holdsRead(t, s[:i]+string([]byte{b})+s[i:])
			}
			for b := range 256 {
				holdsRead(t, s[:i]+string([]byte{byte(b)})+s[i+1:])
			}
		}
		for _, more := range []string{"\x00", "\x01", "a", s, key(1), "\x01a\x02" + key(1)} {
			if holdsRead(t, s+more) == api.OK && n.Kind != pieceKind {
				t.Errorf("%s with %.10x behind is a node", short(n), more)
			}
		}
	}
}

// TestReadUnfit: P11.2, bytes that would be those of nodes that are not fit.
func TestReadUnfit(t *testing.T) {
	for _, n := range unfitNodes() {
		holdsRead(t, raw(n))
	}
	for _, n := range []api.Node{
		piece(""), piece(text(4097)), file(part(1, 0)), file(part(1, 4097)), file(part(2, 1), part(1, 4097)), file(parts(9, 4096)...), file(append(parts(8, 4096), part(1, 1))...),
		file(parts(1025, 1)...), file(parts(1024, 33)...), dir(entries(61)...), dir(plain("b", 1), plain("a", 1)), dir(plain("a", 1), plain("a", 2)), dir(plain("a", 1), below("a", 1)),
		dir(plain("", 1)), dir(plain(".", 1)), dir(plain("..", 1)), dir(plain("a/b", 1)), dir(plain("a\x00", 1)), dir(plain(text(32), 1)), dir(plain(text(65536), 1)),
		dir(api.Entry{Name: "a", Kind: 0, Key: key(1)}), dir(api.Entry{Name: "a", Kind: 1, Key: key(1)}), dir(api.Entry{Name: "a", Kind: 4, Key: key(1)}), dir(api.Entry{Name: "a", Kind: 1, Exec: true, Key: key(1)}),
		dir(api.Entry{Name: "a", Kind: dirKind, Exec: true, Key: key(1)}), dir(api.Entry{Name: "a", Kind: 8, Key: key(1)}), dir(api.Entry{Name: "a", Kind: 10, Key: key(1)}), dir(api.Entry{Name: "a", Kind: 8 + 6, Key: key(1)}),
		dir(api.Entry{Name: "a", Kind: 128 + 2, Key: key(1)}), dir(api.Entry{Name: "a", Kind: 255, Key: key(1)}),
	} {
		got, err := node.Read(raw(n))
		if err != api.ErrForm || !same(got, api.Node{}) {
			t.Errorf("Read of the bytes of %s = %s, %v", short(n), short(got), err)
		}
	}
}

// TestReadNumbers: P11.2, numbers that are great, that are longer than need be, that don't end, or that are not how many there are.
func TestReadNumbers(t *testing.T) {
	refused := func(name, s string) {
		t.Helper()
		if got, err := node.Read(s); err != api.ErrForm || !same(got, api.Node{}) {
			t.Errorf("Read of %s, %.80x = %s, %v", name, s, short(got), err)
		}
	}
	number := func(n uint64) string { return string(binary.AppendUvarint(nil, n)) }
	entry := func(name string) string { return number(uint64(len(name))) + name + "\x02" + key(1) }
	great := []uint64{2, 3, 60, 61, 1024, 1025, 4096, 4097, 65536, 65537}
	for bit := 7; bit < 64; bit++ {
		great = append(great, 1<<bit, 1<<bit+1, 1<<bit-1)
	}
	for n := range uint64(20) {
		great = append(great, math.MaxUint64-n, 1<<63+n, 1<<63-n, 1<<32+n, 1<<32-n)
	}
	for _, n := range great {
		refused("a file of too few parts", "\x02"+number(n)+key(1)+"\x01")
		refused("a file of no parts", "\x02"+number(n))
		refused("a directory of too few entries", "\x03"+number(n)+entry("a"))
		refused("a directory of no entries", "\x03"+number(n))
		refused("a name that ends too early", "\x03\x01"+number(n)+"a\x02"+key(1))
		holdsRead(t, "\x02\x01"+key(1)+number(n))
		if n > mostPiece {
			refused("a part of too many bytes", "\x02\x01"+key(1)+number(n))
			refused("a part of too many bytes ahead", "\x02\x02"+key(1)+number(n)+key(2)+number(-n+1))
		}
	}
	refused("a file of too many parts", "\x02\x00"+key(1)+"\x01")
	refused("a file of one part more", "\x02\x01"+key(1)+"\x01"+key(2)+"\x01")
	refused("a directory of too many entries", "\x03\x00"+entry("a"))
	refused("a directory of one entry more", "\x03\x01"+entry("a")+entry("b"))
	refused("a file without a number", "\x02")
	refused("a directory without a number", "\x03")
	for _, long := range []string{"\x80\x00", "\x80\x80\x00", "\x80\x80\x80\x80\x80\x80\x80\x80\x80\x00", "\x80", "\x80\x80\x80\x80\x80\x80\x80\x80\x80\x02", strings.Repeat("\x80", 10) + "\x00"} {
		refused("a long nothing of a file", "\x02"+long)
		refused("a long nothing of a directory", "\x03"+long)
	}
	for _, long := range []string{"\x81\x00", "\x81\x80\x00", "\x81\x80\x80\x80\x80\x80\x80\x80\x80\x00", strings.Repeat("\x81", 9) + "\x02", strings.Repeat("\x81", 10) + "\x00"} {
		refused("a long number of parts", "\x02"+long+key(1)+"\x01")
		refused("a long number of entries", "\x03"+long+entry("a"))
		refused("a long size", "\x02\x01"+key(1)+long)
		refused("a long size ahead", "\x02\x02"+key(1)+long+key(1)+"\x01")
		refused("a long length", "\x03\x01"+long+"a\x02"+key(1))
	}
}

// anyNode is a node that is mostly fit.
func anyNode(r *rand.Rand) api.Node {
	anyKey := func() string {
		b := make([]byte, keySize)
		for i := range b {
			b[i] = byte(r.Uint32())
		}
		return string(b)
	}
	switch kind := 1 + r.IntN(3); kind {
	case pieceKind:
		b := make([]byte, 1+r.IntN(mostPiece))
		for i := range b {
			b[i] = byte(r.Uint32())
		}
		return piece(string(b))
	case fileKind:
		var l []api.Part
		most := 1 + r.IntN(mostPiece)
		for range r.IntN(40) {
			l = append(l, api.Part{Key: anyKey(), Size: 1 + r.IntN(most)})
		}
		return file(l...)
	}
	known := map[string]int{}
	for range r.IntN(mostEntries + 1) {
		known[strings.Repeat(string([]byte{byte(1 + r.IntN(255))}), 1+r.IntN(3))+string([]byte{byte(r.IntN(256))})]++
	}
	var l []api.Entry
	for name := range known {
		kind := fileKind + r.IntN(2)
		l = append(l, api.Entry{Name: name, Kind: kind, Exec: kind == fileKind && r.IntN(2) == 0, Key: anyKey()})
	}
	slices.SortFunc(l, func(a, b api.Entry) int { return strings.Compare(a.Name, b.Name) })
	return dir(l...)
}

// TestThereAndBack: P11.4, nodes of all kinds there and back, and their bytes, a byte of which is another one.
func TestThereAndBack(t *testing.T) {
	r := rand.New(rand.NewPCG(11, 4))
	fits := map[int]int{}
	for range 6000 {
		n := anyNode(r)
		holdsNode(t, n)
		s := raw(n)
		if holdsRead(t, s) == api.OK {
			fits[n.Kind]++
		}
		b := []byte(s)
		b[r.IntN(len(b))] ^= 1 << r.IntN(8)
		holdsRead(t, string(b))
	}
	for _, kind := range []int{pieceKind, fileKind, dirKind} {
		if fits[kind] < 300 {
			t.Errorf("just %d nodes of kind %d were fit", fits[kind], kind)
		}
	}
}

// within tells whether a text is a part of another one's memory.
func within(part, whole string) bool {
	if part == "" || whole == "" {
		return false
	}
	at, from := uintptr(unsafe.Pointer(unsafe.StringData(part))), uintptr(unsafe.Pointer(unsafe.StringData(whole)))
	return at >= from && at < from+uintptr(len(whole))
}

// TestNewMemory: 0.5, what is told shares no list and no bytes with what was given, nor with what is told again.
func TestNewMemory(t *testing.T) {
	for _, n := range []api.Node{piece(text(40)), file(part(1, 5), part(2, 6)), dir(plain("ab", 1), below("cd", 2))} {
		s := strings.Clone(node.Write(n))
		first, _ := node.Read(s)
		again, _ := node.Read(s)
		told := []string{first.Data}
		for i, x := range first.Parts {
			told = append(told, x.Key)
			first.Parts[i] = part(9, 9)
		}
		for i, x := range first.Entries {
			told = append(told, x.Name, x.Key)
			first.Entries[i] = plain("other", 9)
		}
		for _, x := range told {
			if within(x, s) {
				t.Errorf("Read of %s tells its bytes' own memory", short(n))
			}
		}
		if !same(again, n) {
			t.Errorf("Read of %s tells one list twice: %s", short(n), short(again))
		}
		if n.Data != "" && within(n.Data, node.Write(n)) {
			t.Errorf("Write of %s tells its own memory", short(n))
		}
	}
	n := api.Node{Kind: fileKind, Parts: append(make([]api.Part, 0, 10), part(3, 1), part(1, 1), part(1, 1))}
	first, again := node.Kids(n), node.Kids(n)
	first[0] = "other"
	_ = append(first, "more")
	if !slices.Equal(again, []string{key(1), key(3)}) || !same(n, file(part(3, 1), part(1, 1), part(1, 1))) || n.Parts[:4][3] != (api.Part{}) {
		t.Error("Kids tells one list twice, or what it was given has become another one")
	}
}

// large are texts of up to 2^20 bytes.
func large(r *rand.Rand) []string {
	l := []string{text(1 << 20), strings.Repeat("\x80", 1<<20), strings.Repeat("\x00", 1<<20), strings.Repeat("\xff", 1<<20)}
	for _, head := range []string{"\x01", "\x02", "\x03", "\x02\xff\xff\x7f", "\x03\xff\xff\x7f", "\x02\xff\xff\xff\xff\xff\xff\xff\xff\xff\x01", "\x03\xff\xff\xff\xff\xff\xff\xff\xff\xff\x01", "\x03\x01\xff\xff\x03", "\x03\x01\x80\x80\x04"} {
		for _, fill := range []string{"x", "\x00", "\x01", "\x02", key(1) + "\x01", "\x01a\x02" + key(1), "\x00\x02" + key(1)} {
			l = append(l, head+strings.Repeat(fill, (1<<20-len(head))/len(fill)))
		}
	}
	for range 20 {
		b := make([]byte, 1<<20)
		for i := range b {
			b[i] = byte(r.Uint32())
		}
		b[0] = byte(1 + r.IntN(3))
		l = append(l, string(b))
	}
	return l
}

// TestAny: 0.1, any arguments, up to the greatest: each call ends, and none panics.
func TestAny(t *testing.T) {
	r := rand.New(rand.NewPCG(11, 6))
	done := make(chan bool)
	go func() {
		defer close(done)
		for _, s := range large(r) {
			if got, err := node.Read(s); err != api.ErrForm || !same(got, api.Node{}) {
				t.Errorf("Read(%.20x..) = %s, %v", s, short(got), err)
			}
			for kind := range 5 {
				n := api.Node{Kind: kind, Data: s, Parts: []api.Part{{Key: s, Size: len(s)}}, Entries: []api.Entry{{Name: s, Kind: kind, Exec: true, Key: s}}}
				for _, n := range []api.Node{n, {Kind: kind, Data: s}, {Kind: kind, Parts: n.Parts}, {Kind: kind, Entries: n.Entries}} {
					if node.Fit(n) || node.Write(n) != "" || node.Key(n) != "" || len(node.Kids(n)) > 0 || !node.Same(n, n) {
						t.Errorf("%s is not told as what it is", short(n))
					}
				}
			}
		}
		for kind := range 5 {
			n := api.Node{Kind: kind, Parts: parts(100000, 1), Entries: entries(100000)}
			if node.Fit(n) || node.Write(n) != "" || node.Key(n) != "" || len(node.Kids(n)) != 256 || !node.Same(n, n) {
				t.Errorf("%s is not told as what it is", short(n))
			}
		}
		for range 100000 {
			b := make([]byte, r.IntN(100))
			for i := range b {
				b[i] = byte(r.Uint32() >> r.IntN(32))
			}
			node.Read("\x02" + string(b))
			node.Read("\x03" + string(b))
		}
	}()
	select {
	case <-done:
	case <-time.After(60 * time.Second):
		t.Fatal("a call does not end")
	}
}
