package fetch_test

import (
	"crypto/sha256"
	"fmt"
	"maps"
	"reflect"
	"slices"
	"strings"
	"testing"
	"time"

	"silo/api"
	"silo/fetch"
	"silo/node"
	"silo/tree"
)

// What the chapters name.
const (
	mostItems   = 60
	mostNames   = 8
	mostPiece   = 4096
	mostFile    = 32768
	mostAll     = 65536
	mostParts   = 1024
	mostObjects = 1 << 16
	keySize     = 32
)

func params(least, usual, greatest int) api.Params {
	return api.Params{Min: least, Avg: usual, Max: greatest}
}

func dirItem(path string) api.Item { return api.Item{Path: path, Dir: true} }

func fileItem(path, data string) api.Item { return api.Item{Path: path, Data: data} }

func program(path, data string) api.Item { return api.Item{Path: path, Exec: true, Data: data} }

func object(key, raw string) api.Object { return api.Object{Key: key, Raw: raw} }

func text(n int) string { return strings.Repeat("x", n) }

// key is a key of one byte, again and again.
func key(b byte) string { return strings.Repeat(string([]byte{b}), keySize) }

// sum is a text's sum, as the library tells it.
func sum(s string) string {
	b := sha256.Sum256([]byte(s))
	return string(b[:])
}

// part is a part of a key, of so many bytes.
func part(key string, size int) api.Part { return api.Part{Key: key, Size: size} }

// inFile is an entry of a file.
func inFile(name, key string) api.Entry { return api.Entry{Name: name, Kind: api.NdFile, Key: key} }

// inDir is an entry of a directory.
func inDir(name, key string) api.Entry { return api.Entry{Name: name, Kind: api.NdDir, Key: key} }

// heap is objects' bytes by their keys.
type heap map[string]string

// raw is the key of any bytes, which are put in.
func (h heap) raw(s string) string {
	k := sum(s)
	h[k] = s
	return k
}

// node is the key of a node, which is put in: it has to be fit.
func (h heap) node(n api.Node) string {
	s := node.Write(n)
	if s == "" {
		panic(fmt.Sprintf("%.200v is not fit", n))
	}
	return h.raw(s)
}

// piece is the key of a piece, which is put in.
func (h heap) piece(s string) string { return h.node(api.Node{Kind: api.NdPiece, Data: s}) }

// file is the key of a file of parts, which is put in.
func (h heap) file(l ...api.Part) string { return h.node(api.Node{Kind: api.NdFile, Parts: l}) }

// whole is the key of a file of pieces, which are put in, too.
func (h heap) whole(l ...string) string {
	var parts []api.Part
	for _, s := range l {
		parts = append(parts, part(h.piece(s), len(s)))
	}
	return h.file(parts...)
}

// dir is the key of a directory of entries, which is put in.
func (h heap) dir(l ...api.Entry) string { return h.node(api.Node{Kind: api.NdDir, Entries: l}) }

// list is the objects, by their keys.
func (h heap) list() []api.Object {
	var l []api.Object
	for _, k := range slices.Sorted(maps.Keys(h)) {
		l = append(l, object(k, h[k]))
	}
	return l
}

// heapOf is objects' bytes by their keys.
func heapOf(l []api.Object) heap {
	h := heap{}
	for _, x := range l {
		h[x.Key] = x.Raw
	}
	return h
}

// without is all objects but that of a key.
func (h heap) without(k string) heap {
	other := maps.Clone(h)
	delete(other, k)
	return other
}

// with is all objects, that of a key having other bytes.
func (h heap) with(k, raw string) heap {
	other := maps.Clone(h)
	other[k] = raw
	return other
}

// keysOf is the keys of objects.
func keysOf(l []api.Object) []string {
	var out []string
	for _, x := range l {
		out = append(out, x.Key)
	}
	return out
}

// short is a tree in words that can be read in a failure.
func short(l []api.Item) string {
	var out strings.Builder
	for i, x := range l {
		if i == 8 {
			fmt.Fprintf(&out, "and %d more", len(l)-i)
			break
		}
		fmt.Fprintf(&out, "{%.40q dir %v exec %v %.10q/%d} ", x.Path, x.Dir, x.Exec, x.Data, len(x.Data))
	}
	return out.String()
}

// load is the node of a key, of a kind, as the chapter words it.
func (h heap) load(k string, kind int) (api.Node, api.Errno) {
	raw, there := h[k]
	if !there {
		return api.Node{}, api.ErrNone
	}
	n, err := node.Read(raw)
	switch {
	case sum(raw) != k:
		return api.Node{}, api.ErrKey
	case err != api.OK:
		return api.Node{}, api.ErrForm
	case n.Kind != kind:
		return api.Node{}, api.ErrKind
	}
	return n, api.OK
}

// way is what was met on the way through a directory.
type way struct {
	heap
	items []api.Item
	bytes int
	err   api.Errno
}

// stop tells whether something is wrong, be it from now on.
func (w *way) stop(err api.Errno) bool {
	if w.err == api.OK {
		w.err = err
	}
	return w.err != api.OK
}

// file is what is met in a file.
func (w *way) file(k string) string {
	n, err := w.load(k, api.NdFile)
	if w.stop(err) {
		return ""
	}
	out := ""
	for _, x := range n.Parts {
		piece, err := w.load(x.Key, api.NdPiece)
		if w.stop(err) {
			return ""
		}
		if len(piece.Data) != x.Size && w.stop(api.ErrRange) {
			return ""
		}
		out += piece.Data
		w.bytes += len(piece.Data)
		if w.bytes > mostAll && w.stop(api.ErrRange) {
			return ""
		}
	}
	return out
}

// dir is what is met in a directory, of which the names are those.
func (w *way) dir(k string, names []string) {
	n, err := w.load(k, api.NdDir)
	if w.stop(err) {
		return
	}
	for _, x := range n.Entries {
		below := append(slices.Clone(names), x.Name)
		if len(below) > mostNames && w.stop(api.ErrDepth) {
			return
		}
		if len(w.items)+1 > mostItems && w.stop(api.ErrMany) {
			return
		}
		at := len(w.items)
		w.items = append(w.items, api.Item{Path: strings.Join(below, "/"), Dir: x.Kind == api.NdDir, Exec: x.Exec})
		if x.Kind == api.NdDir {
			w.dir(x.Key, below)
		} else {
			w.items[at].Data = w.file(x.Key)
		}
		if w.err != api.OK {
			return
		}
	}
}

// tree is P13.1 as the chapter words it.
func (h heap) tree(k string) ([]api.Item, api.Errno) {
	w := &way{heap: h}
	w.dir(k, nil)
	if w.err != api.OK {
		return nil, w.err
	}
	return w.items, api.OK
}

// content is P13.3's File as the chapter words it: in the tree of a directory of it alone.
func (h heap) content(k string) (string, api.Errno) {
	if len(k) != keySize {
		return "", api.ErrNone
	}
	other := maps.Clone(h)
	l, err := other.tree(other.dir(inFile("f", k)))
	if err != api.OK {
		return "", err
	}
	return l[0].Data, api.OK
}

// reach is P13.2 as the chapter words it, by going over all again and again.
func (h heap) reach(from []string) ([]string, bool) {
	known := map[string]bool{}
	for _, k := range from {
		if len(k) == keySize {
			known[k] = true
		}
	}
	nodes := map[string]api.Node{}
	for k, raw := range h {
		if n, err := node.Read(raw); err == api.OK {
			nodes[k] = n
		}
	}
	for was := -1; was != len(known); {
		was = len(known)
		for _, k := range slices.Collect(maps.Keys(known)) {
			for _, x := range nodes[k].Parts {
				known[x.Key] = true
			}
			for _, x := range nodes[k].Entries {
				known[x.Key] = true
			}
		}
	}
	whole := true
	for k := range known {
		_, is := nodes[k]
		whole = whole && is
	}
	return slices.Sorted(maps.Keys(known)), whole
}

// checkTree holds Tree against what is wanted.
func checkTree(t *testing.T, name string, l []api.Object, k string, want []api.Item, err api.Errno) {
	t.Helper()
	given := slices.Clone(l)
	got, gotErr := fetch.Tree(l, k)
	if gotErr != err || !slices.Equal(got, want) || len(got) == 0 && got != nil {
		t.Fatalf("%s: Tree of %.4x = %s, %v, want %s, %v", name, k, short(got), gotErr, short(want), err)
	}
	if !tree.Fit(got) {
		t.Fatalf("%s: Tree of %.4x = %s, which is not fit", name, k, short(got))
	}
	if !slices.Equal(l, given) {
		t.Fatalf("%s: Tree of %.4x changed the objects", name, k)
	}
}

// checkFile holds File against what is wanted.
func checkFile(t *testing.T, name string, l []api.Object, k, want string, err api.Errno) {
	t.Helper()
	given := slices.Clone(l)
	if got, gotErr := fetch.File(l, k); got != want || gotErr != err {
		t.Fatalf("%s: File of %.4x = %.40q/%d, %v, want %.40q/%d, %v", name, k, got, len(got), gotErr, want, len(want), err)
	}
	if !slices.Equal(l, given) {
		t.Fatalf("%s: File of %.4x changed the objects", name, k)
	}
}

// checkLoad holds Load against what is wanted.
func checkLoad(t *testing.T, name string, l []api.Object, k string, kind int, want api.Node, err api.Errno) {
	t.Helper()
	given := slices.Clone(l)
	if got, gotErr := fetch.Load(l, k, kind); !reflect.DeepEqual(got, want) || gotErr != err {
		t.Fatalf("%s: Load of %.4x, %d = %.100v, %v, want %.100v, %v", name, k, kind, got, gotErr, want, err)
	}
	if !slices.Equal(l, given) {
		t.Fatalf("%s: Load of %.4x changed the objects", name, k)
	}
}

// checkReach holds Reach against what is wanted.
func checkReach(t *testing.T, name string, l []api.Object, from, want []string, whole bool) {
	t.Helper()
	given, asked := slices.Clone(l), slices.Clone(from)
	got, gotWhole := fetch.Reach(l, from)
	if !slices.Equal(got, want) || gotWhole != whole || len(got) == 0 && got != nil {
		t.Fatalf("%s: Reach of %d keys = %d keys %.4x, %v, want %d keys %.4x, %v", name, len(from), len(got), first(got), gotWhole, len(want), first(want), whole)
	}
	if !slices.Equal(l, given) || !slices.Equal(from, asked) {
		t.Fatalf("%s: Reach changed the objects or the keys", name)
	}
}

// first is the first ones of a list.
func first(l []string) []string { return l[:min(len(l), 8)] }

// holds holds all calls of a key against the chapter's words, and tells the error of Tree.
func holds(t *testing.T, name string, h heap, l []api.Object, k string) api.Errno {
	t.Helper()
	items, err := h.tree(k)
	checkTree(t, name, l, k, items, err)
	data, fileErr := h.content(k)
	checkFile(t, name, l, k, data, fileErr)
	for _, kind := range []int{api.NdPiece, api.NdFile, api.NdDir} {
		n, loadErr := h.load(k, kind)
		checkLoad(t, name, l, k, kind, n, loadErr)
	}
	return err
}

// inTime fails if a call does not end.
func inTime(t *testing.T, call func()) {
	t.Helper()
	done := make(chan bool)
	go func() {
		defer close(done)
		call()
	}()
	select {
	case <-done:
	case <-time.After(60 * time.Second):
		t.Fatal("a call does not end")
	}
}

// noNodes are bytes that are no node's.
func noNodes() []string {
	parts := strings.Repeat(key(1)+"\x01", mostParts+1)
	return []string{
		"", "\x00", "\x01", "\x02", "\x03", "\x04", "\xff", "\x00x", "\x04\x00", "\x07x", "x", "\x02\x01", "\x03\x01", "\x02\x00\x00", "\x03\x00\x03\x00", "\x02\x80\x00", "\x01" + text(mostPiece+1), "\x01" + text(1<<20), "\x01" + text(1<<22),
		"\x02\x01" + key(1), "\x02\x01" + key(1) + "\x00", "\x02\x01" + key(1) + "\x81\x20", "\x02\x81\x08" + parts, "\x02\x09" + strings.Repeat(key(1)+"\x80\x20", 9),
		"\x03\x01\x01a\x01" + key(1), "\x03\x01\x01a\x07" + key(1), "\x03\x01\x01/\x02" + key(1), "\x03\x01\x00\x02" + key(1), "\x03\x01\x02..\x03" + key(1), "\x03\x02\x01b\x02" + key(1) + "\x01a\x02" + key(1), "\x03\x02\x01a\x02" + key(1) + "\x01a\x03" + key(1), "\x03\x01\x01a\x02" + key(1)[1:],
	}
}

// someNodes are nodes that are fit.
func someNodes() []api.Node {
	parts := slices.Repeat([]api.Part{part(key(7), 32)}, mostParts)
	var entries []api.Entry
	for i := range mostItems {
		entries = append(entries, api.Entry{Name: strings.Repeat(string([]byte{byte(128 + i)}), 31), Kind: api.NdFile, Exec: i%2 == 0, Key: key(byte(i))})
	}
	return []api.Node{
		{Kind: api.NdPiece, Data: "x"}, {Kind: api.NdPiece, Data: "\x03\x00"}, {Kind: api.NdPiece, Data: text(mostPiece)},
		{Kind: api.NdFile}, {Kind: api.NdFile, Parts: []api.Part{part(key(0), 1)}}, {Kind: api.NdFile, Parts: []api.Part{part(key(0), 4096), part(key(255), 1), part(key(0), 1)}}, {Kind: api.NdFile, Parts: parts},
		{Kind: api.NdDir}, {Kind: api.NdDir, Entries: []api.Entry{inFile("f", key(1))}}, {Kind: api.NdDir, Entries: []api.Entry{inDir("d", key(1)), inFile("e", key(1))}}, {Kind: api.NdDir, Entries: entries},
	}
}

// great is the key of a file of n bytes, in pieces of 4096 at most, and its bytes.
func (h heap) great(n int) (string, string) {
	var l []string
	for left := n; left > 0; left -= mostPiece {
		l = append(l, strings.Repeat(string([]byte{byte('a' + len(l))}), min(left, mostPiece)))
	}
	return h.whole(l...), strings.Join(l, "")
}
