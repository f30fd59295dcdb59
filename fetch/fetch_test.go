package fetch_test

import (
	"encoding/hex"
	"fmt"
	"maps"
	"math"
	"math/rand/v2"
	"reflect"
	"slices"
	"strings"
	"testing"

	"silo/api"
	"silo/dag"
	"silo/fetch"
	"silo/node"
)

// kinds are those that there are, and others.
func kinds() []int {
	return []int{api.NdPiece, api.NdFile, api.NdDir, 0, 4, 5, 6, 7, -1, -2, -3, 255, 256 + 1, 256 + 2, 256 + 3, 1<<32 + 1, 1<<32 + 3, math.MinInt, math.MaxInt}
}

// TestLoad: P13.3, 0.3, nodes of each kind, which are asked for as each kind, alone and among others.
func TestLoad(t *testing.T) {
	all := heap{}
	for _, n := range someNodes() {
		all.node(n)
	}
	for _, n := range someNodes() {
		alone := heap{}
		k := alone.node(n)
		for _, kind := range kinds() {
			want, err := n, api.OK
			if kind != n.Kind {
				want, err = api.Node{}, api.ErrKind
			}
			checkLoad(t, "alone", alone.list(), k, kind, want, err)
			checkLoad(t, "among others", all.list(), k, kind, want, err)
			checkLoad(t, "without it", all.without(k).list(), k, kind, api.Node{}, api.ErrNone)
		}
	}
}

// TestLoadWrong: P13.3, 0.2, each error of a node, and of several the first one.
func TestLoadWrong(t *testing.T) {
	piece, file, dir := "\x01x", "\x02\x00", "\x03\x00"
	var raws []string
	for _, n := range someNodes() {
		raws = append(raws, node.Write(n))
	}
	for _, kind := range kinds() {
		for _, raw := range append(raws, noNodes()...) {
			for _, k := range []string{key(9), sum(raw + "other"), sum("other"), key(0), sum(raw)[:31] + "\x00", "\x00" + sum(raw)[1:]} {
				l := heap{k: raw, sum(piece): piece, sum(file): file, sum(dir): dir}.list()
				checkLoad(t, "another sum", l, k, kind, api.Node{}, api.ErrKey)
			}
		}
		for _, raw := range noNodes() {
			l := heap{sum(raw): raw, sum(piece): piece, sum(file): file, sum(dir): dir}.list()
			checkLoad(t, "no node's bytes", l, sum(raw), kind, api.Node{}, api.ErrForm)
		}
		l := heap{sum(piece): piece, sum(file): file, sum(dir): dir}.list()
		for _, k := range []string{"", "x", key(0), key(255), sum("x"), sum(piece)[:31], sum(piece) + "\x00", sum(dir)[1:], text(65536)} {
			checkLoad(t, "no object", l, k, kind, api.Node{}, api.ErrNone)
			checkLoad(t, "no objects", nil, k, kind, api.Node{}, api.ErrNone)
			checkLoad(t, "no objects", []api.Object{}, k, kind, api.Node{}, api.ErrNone)
		}
	}
}

// TestSizes: P13.1, P13.3, pieces that have another size than their part says, at each place.
func TestSizes(t *testing.T) {
	for _, n := range []int{1, 2, 5, 40} {
		for at := range n {
			for _, size := range []int{1, 2, 3, 4, 5, 6, 4095, 4096} {
				h := heap{}
				var l []api.Part
				want := ""
				for i := range n {
					s := fmt.Sprintf("%04d", i)
					want += s
					l = append(l, part(h.piece(s), 4))
				}
				l[at].Size = size
				k := h.file(l...)
				err := api.ErrRange
				if size == 4 {
					err = api.OK
				} else {
					want = ""
				}
				checkFile(t, "sizes", h.list(), k, want, err)
				var items []api.Item
				if err == api.OK {
					items = []api.Item{program("f", want)}
				}
				top := h.dir(api.Entry{Name: "f", Kind: api.NdFile, Exec: true, Key: k})
				checkTree(t, "sizes", h.list(), top, items, err)
			}
		}
	}
	h := heap{}
	one, two := h.piece("1"), h.piece("22")
	for _, c := range []struct {
		name string
		k    string
		err  api.Errno
	}{
		{"two sizes turned round", h.file(part(one, 2), part(two, 1)), api.ErrRange},
		{"a size of all", h.file(part(one, 3), part(two, 2)), api.ErrRange},
		{"ahead of what is not there", h.file(part(one, 2), part(key(1), 1)), api.ErrRange},
		{"behind what is not there", h.file(part(one, 1), part(key(1), 1), part(two, 1)), api.ErrNone},
		{"of what is not there", h.file(part(one, 1), part(key(1), 4096)), api.ErrNone},
		{"of a file", h.file(part(h.file(), 2)), api.ErrKind},
		{"of a directory", h.file(part(h.dir(), 2)), api.ErrKind},
		{"ahead of a file", h.file(part(two, 1), part(h.dir(), 2)), api.ErrRange},
	} {
		checkFile(t, c.name, h.list(), c.k, "", c.err)
	}
}

// TestFileLimits: P13.3, files of up to 32768 bytes and 1024 pieces.
func TestFileLimits(t *testing.T) {
	for _, n := range []int{0, 1, 4095, 4096, 4097, 8192, 32767, 32768} {
		h := heap{}
		k, data := h.great(n)
		checkFile(t, "bytes", h.list(), k, data, api.OK)
	}
	h := heap{}
	var pieces []string
	for i := range mostParts {
		pieces = append(pieces, fmt.Sprintf("%032d", i*i))
	}
	k := h.whole(pieces...)
	checkFile(t, "1024 pieces", h.list(), k, strings.Join(pieces, ""), api.OK)
	turned := slices.Clone(pieces)
	slices.Reverse(turned)
	k = h.whole(turned...)
	checkFile(t, "1024 pieces, turned round", h.list(), k, strings.Join(turned, ""), api.OK)
	k = h.file(slices.Repeat([]api.Part{part(h.piece("ab"), 2)}, mostParts)...)
	checkFile(t, "a piece 1024 times", h.list(), k, strings.Repeat("ab", mostParts), api.OK)
	last := h.file(append(slices.Repeat([]api.Part{part(h.piece("ab"), 2)}, mostParts-1), part(key(1), 2))...)
	checkFile(t, "the last of 1024 not there", h.list(), last, "", api.ErrNone)
}

// TestAnyObjects: P13.1 to P13.3, objects of all kinds that name one another, against the chapter's words: each error is met many times.
func TestAnyObjects(t *testing.T) {
	r := rand.New(rand.NewPCG(13, 3))
	met := map[api.Errno]int{}
	for i := range 180 {
		p := anyPools(r, []int{0, 30, 100}[i%3])
		l := p.list()
		known := keysOf(l)
		for _, k := range append(known, p.wrong...) {
			met[holds(t, "any", p.heap, l, k)]++
		}
		for range 10 {
			var from []string
			for range r.IntN(6) {
				from = append(from, known[r.IntN(len(known))], p.wrong[r.IntN(len(p.wrong))][:r.IntN(33)])
			}
			set, whole := p.reach(from)
			checkReach(t, "any", l, from, set, whole)
		}
	}
	for _, err := range []api.Errno{api.OK, api.ErrNone, api.ErrKey, api.ErrForm, api.ErrKind, api.ErrDepth, api.ErrMany, api.ErrRange} {
		if met[err] < 100 {
			t.Errorf("%v was met %d times", err, met[err])
		}
	}
}

// TestFileAsTree: P13.3, File tells what Tree of a directory of it alone does.
func TestFileAsTree(t *testing.T) {
	r := rand.New(rand.NewPCG(13, 4))
	for range 6 {
		p := anyPools(r, 30)
		for _, k := range append(keysOf(p.list()), p.wrong...) {
			other := maps.Clone(p.heap)
			top := other.dir(api.Entry{Name: "f", Kind: api.NdFile, Key: k})
			l, err := fetch.Tree(other.list(), top)
			data := ""
			if err == api.OK {
				data = l[0].Data
			}
			checkFile(t, "alone", p.list(), k, data, err)
		}
	}
	for _, k := range []string{"", "x", text(31), text(33), text(65536)} {
		checkFile(t, "no key", anyPools(r, 0).list(), k, "", api.ErrNone)
		checkFile(t, "no objects", nil, k, "", api.ErrNone)
	}
}

// TestCheck: P13.3, objects whose keys are sums, and one at each place whose is not.
func TestCheck(t *testing.T) {
	h := heap{}
	for _, n := range someNodes() {
		h.node(n)
	}
	for _, raw := range noNodes() {
		if len(raw) <= mostPiece {
			h.raw(raw)
		}
	}
	l := h.list()
	great := text(1 << 21)
	for _, l := range [][]api.Object{nil, {}, l, l[:1], l[1:], listed(t, ten), {object(sum(""), "")}, {object(sum("abc"), "abc")}, {object(sum(great), great)}} {
		if !fetch.Check(l) {
			t.Errorf("Check of %d objects = false", len(l))
		}
	}
	for i, x := range l {
		for _, raw := range []string{x.Raw + "\x00", x.Raw + "x", "other", l[(i+1)%len(l)].Raw, strings.ToUpper(x.Raw + "a")} {
			other := h.with(x.Key, raw).list()
			if fetch.Check(other) || fetch.Check(other[:i+1]) || fetch.Check(other[i:]) || fetch.Check(other[i:i+1]) {
				t.Errorf("Check with other bytes at %d = true", i)
			}
			if !fetch.Check(other[:i]) || !fetch.Check(other[i+1:]) {
				t.Errorf("Check of what is beside other bytes at %d = false", i)
			}
		}
		for _, k := range []string{x.Key[:31] + string([]byte{x.Key[31] ^ 1}), string([]byte{x.Key[0] ^ 128}) + x.Key[1:], key(0), key(255), hex.EncodeToString([]byte(x.Key))[:32]} {
			if fetch.Check([]api.Object{object(k, x.Raw)}) || fetch.Check(h.without(x.Key).with(k, x.Raw).list()) {
				t.Errorf("Check with another key at %d = true", i)
			}
		}
	}
}

// TestNewMemory: 0.5, what is told shares no list with what was given, nor with what is told again.
func TestNewMemory(t *testing.T) {
	top, objects := dag.Build(params(16, 64, 256), seededTree(7))
	given := slices.Clone(objects)
	items, _ := fetch.Tree(objects, top)
	again, _ := fetch.Tree(objects, top)
	for i := range items {
		items[i] = fileItem("other", "other")
	}
	_ = append(items, fileItem("more", "more"))
	if !slices.Equal(again, seededTree(7)) {
		t.Error("Tree tells one list twice")
	}
	from := append(make([]string, 0, 10), top)
	for _, call := range []func() []string{
		func() []string { l, _ := fetch.Reach(objects, from); return l },
		func() []string { l, _ := fetch.Reach(nil, from); return l },
	} {
		set, more := call(), call()
		whole := slices.Clone(more)
		for i := range set {
			set[i] = "other"
		}
		_ = append(set, "more")
		if !slices.Equal(more, whole) || from[0] != top || from[:2][1] != "" {
			t.Error("Reach tells one list twice, or that which it was given")
		}
	}
	for _, x := range objects {
		for _, kind := range []int{api.NdFile, api.NdDir} {
			n, _ := fetch.Load(objects, x.Key, kind)
			more, _ := fetch.Load(objects, x.Key, kind)
			for i := range n.Parts {
				n.Parts[i] = part("other", 7)
			}
			for i := range n.Entries {
				n.Entries[i] = inDir("other", "other")
			}
			want, _ := heapOf(objects).load(x.Key, kind)
			if !node.Same(more, want) {
				t.Error("Load tells one list twice")
			}
		}
	}
	if !slices.Equal(objects, given) {
		t.Error("the objects are changed")
	}
}

// unfitObjects are objects that are not fit, or are many.
func unfitObjects(r *rand.Rand) [][]api.Object {
	_, objects := dag.Build(params(16, 64, 256), seededTree(7))
	turned := slices.Clone(objects)
	slices.Reverse(turned)
	all := [][]api.Object{{{}}, {{}, {}}, turned, slices.Repeat(objects, 3), {object("b", ""), object("a", "")}, {object("", "\x03\x00"), object("a", "\x02\x00")}, slices.Repeat([]api.Object{object(key(1), "\x03\x00")}, 100000), {object(text(1<<20), text(1<<20))}, {object(sum("\x01"+text(1<<24)), "\x01"+text(1<<24))}}
	for range 100 {
		l := slices.Concat(objects, objects, turned)
		r.Shuffle(len(l), func(i, k int) { l[i], l[k] = l[k], l[i] })
		for i := range l {
			switch r.IntN(8) {
			case 0:
				l[i].Key = l[i].Key[:r.IntN(33)]
			case 1:
				l[i].Raw = l[i].Raw[:r.IntN(len(l[i].Raw))]
			case 2:
				l[i].Key = l[r.IntN(len(l))].Key
			case 3:
				l[i].Raw = node.Write(api.Node{Kind: api.NdDir, Entries: []api.Entry{inDir("a", l[r.IntN(len(l))].Key), inDir("b", key(1))}})
			}
		}
		all = append(all, l)
	}
	return all
}

// TestAny: 0.1, any arguments, up to great ones: each call ends, and none panics; 0.3, beside an error there is nothing.
func TestAny(t *testing.T) {
	r := rand.New(rand.NewPCG(13, 6))
	top, objects := dag.Build(params(16, 64, 256), seededTree(7))
	inTime(t, func() {
		for _, l := range append(unfitObjects(r), nil, objects) {
			asked := []string{"", "a", "b", top, key(1), text(31), text(33), text(1 << 20), objects[0].Key}
			for _, x := range l[:min(len(l), 60)] {
				asked = append(asked, x.Key)
			}
			for _, k := range asked {
				if items, err := fetch.Tree(l, k); err != api.OK && items != nil {
					t.Errorf("Tree tells %s beside %v", short(items), err)
				}
				if data, err := fetch.File(l, k); err != api.OK && data != "" {
					t.Errorf("File tells %.20q beside %v", data, err)
				}
				for _, kind := range kinds() {
					if n, err := fetch.Load(l, k, kind); err != api.OK && !reflect.DeepEqual(n, api.Node{}) {
						t.Errorf("Load tells %.40v beside %v", n, err)
					}
				}
			}
			fetch.Reach(l, asked)
			fetch.Reach(l, slices.Repeat(asked, 1000))
			fetch.Check(l)
		}
	})
}
