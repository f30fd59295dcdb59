package fetch_test

import (
	"fmt"
	"maps"
	"math/rand/v2"
	"slices"
	"testing"

	"silo/api"
	"silo/fetch"
	"silo/node"
)

// TestReach: P13.2, what is reached: the keys themselves, and what is named by nodes, be it there or not.
func TestReach(t *testing.T) {
	h := heap{}
	x, y := h.piece("x"), h.piece("y")
	file := h.file(part(x, 1), part(y, 1), part(x, 1))
	dir := h.dir(inFile("a", file), inDir("b", h.dir()))
	empty := h.dir()
	lost := h.file(part(key(1), 1), part(x, 1), part(key(250), 1))
	above := h.dir(inFile("a", lost), inFile("b", file))
	garbage := h.raw("\x00" + x)
	named := h.dir(inFile("a", garbage), inDir("b", empty))
	spoiltDir := key(7)
	h[spoiltDir] = h[dir]
	spoiltNone := key(8)
	h[spoiltNone] = "\x02\x01" + x + "\x00"
	for _, c := range []struct {
		name  string
		from  []string
		want  []string
		whole bool
	}{
		{"nothing", nil, nil, true},
		{"a piece", []string{x}, []string{x}, true},
		{"two pieces", []string{x, y}, []string{x, y}, true},
		{"a piece twice", []string{x, x}, []string{x}, true},
		{"a file", []string{file}, []string{x, y, file}, true},
		{"a file and its piece", []string{x, file}, []string{x, y, file}, true},
		{"a directory", []string{dir}, []string{x, y, file, dir, empty}, true},
		{"an empty directory", []string{empty}, []string{empty}, true},
		{"what is not there", []string{key(1)}, []string{key(1)}, false},
		{"what is not there, among others", []string{x, key(1), y}, []string{x, y, key(1)}, false},
		{"two that are not there", []string{key(2), key(1)}, []string{key(1), key(2)}, false},
		{"a file whose pieces are not there", []string{lost}, []string{lost, key(1), x, key(250)}, false},
		{"a directory of one of which pieces are not there", []string{above}, []string{above, lost, key(1), x, key(250), file, y}, false},
		{"no node's bytes", []string{garbage}, []string{garbage}, false},
		{"no node's bytes that begin like one's", []string{spoiltNone}, []string{spoiltNone}, false},
		{"a directory that names no node's bytes", []string{named}, []string{named, garbage, empty}, false},
		{"a node's bytes by another key", []string{spoiltDir}, []string{spoiltDir, file, x, y, empty}, true},
		{"what is no key", []string{"", "x", x[:31], x + "\x00", text(33), text(65536)}, nil, true},
		{"what is no key, among others", []string{"", x, x[1:], key(1) + "x", y}, []string{x, y}, true},
		{"all", []string{above, dir, named}, []string{above, lost, key(1), x, key(250), file, y, dir, empty, named, garbage}, false},
		{"what is not there ahead of what is", []string{key(0), dir}, []string{key(0), x, y, file, dir, empty}, false},
		{"what is no node's ahead of what is", []string{garbage, dir}, []string{garbage, x, y, file, dir, empty}, false},
		{"what is there ahead of what is not", []string{dir, key(255)}, []string{key(255), x, y, file, dir, empty}, false},
	} {
		slices.Sort(c.want)
		checkReach(t, c.name, h.list(), c.from, c.want, c.whole)
		slices.Reverse(c.from)
		checkReach(t, c.name, h.list(), c.from, c.want, c.whole)
	}
	checkReach(t, "no objects", nil, []string{x, y, x}, slices.Sorted(slices.Values([]string{x, y})), false)
	checkReach(t, "no objects and no keys", nil, nil, nil, true)
	checkReach(t, "no objects and no keys", []api.Object{}, []string{}, nil, true)
}

// TestReachNoNodes: P13.2, of bytes that are no node's, whatever they look like, nothing more is reached; of those of a node all is, whatever their sum.
func TestReachNoNodes(t *testing.T) {
	for _, raw := range noNodes() {
		for _, k := range []string{sum(raw), key(9)} {
			l := heap{k: raw, key(1): "\x01x"}.list()
			checkReach(t, "no node", l, []string{k}, []string{k}, false)
			checkReach(t, "no node and one", l, []string{k, key(1)}, slices.Sorted(slices.Values([]string{key(1), k})), false)
		}
	}
	for _, n := range someNodes() {
		for _, k := range []string{node.Key(n), key(99)} {
			h := heap{k: node.Write(n)}
			set, whole := h.reach([]string{k})
			checkReach(t, "a node", h.list(), []string{k}, set, whole)
			if whole != (len(set) == 1) || len(set) != 1+len(node.Kids(n)) {
				t.Fatalf("%d keys are reached, %v", len(set), whole)
			}
		}
	}
}

// TestReachRound: P13.2, 0.1, keys whose nodes name one another in a ring, as none of them is a sum.
func TestReachRound(t *testing.T) {
	own := node.Write(api.Node{Kind: api.NdDir, Entries: []api.Entry{inDir("a", key(1))}})
	inTime(t, func() {
		checkReach(t, "itself", []api.Object{object(key(1), own)}, []string{key(1)}, []string{key(1)}, true)
		checkTree(t, "itself", []api.Object{object(key(1), own)}, key(1), nil, api.ErrKey)
	})
	for _, n := range []int{2, 3, 100, 256} {
		h := heap{}
		for i := range n {
			h[key(byte(i))] = node.Write(api.Node{Kind: api.NdDir, Entries: []api.Entry{inDir("a", key(byte((i+1)%n)))}})
		}
		inTime(t, func() {
			for i := range n {
				checkReach(t, "a ring", h.list(), []string{key(byte(i))}, slices.Sorted(maps.Keys(h)), true)
			}
		})
		delete(h, key(1))
		set := slices.Sorted(maps.Keys(h))
		for i := range n {
			want, whole := h.reach([]string{key(byte(i))})
			checkReach(t, "a ring with a gap", h.list(), []string{key(byte(i))}, want, whole)
			if whole || len(want) > len(set)+1 {
				t.Fatalf("from %d of %d %d keys are reached, %v", i, n, len(want), whole)
			}
		}
	}
}

// TestReachAny: P13.2, keys that name others without any order, rings among them, some of which are not there or no node's, against the chapter's words.
func TestReachAny(t *testing.T) {
	r := rand.New(rand.NewPCG(13, 5))
	full, parts := 0, 0
	for round := range 300 {
		h := heap{}
		n := 1 + r.IntN(60)
		for i := range n {
			var x api.Node
			switch r.IntN(3) {
			case 0:
				x = api.Node{Kind: api.NdPiece, Data: text(1 + r.IntN(50))}
			case 1:
				x.Kind = api.NdFile
				for range r.IntN(4) {
					x.Parts = append(x.Parts, part(key(byte(r.IntN(n))), 1))
				}
			default:
				x.Kind = api.NdDir
				for at := range r.IntN(4) {
					x.Entries = append(x.Entries, api.Entry{Name: string('a' + rune(at)), Kind: api.NdFile + r.IntN(2), Key: key(byte(r.IntN(n)))})
				}
			}
			h[key(byte(i))] = node.Write(x)
			if round%2 == 1 && r.IntN(40) == 0 {
				h[key(byte(i))] = "\x02\x01" + key(byte(r.IntN(n)))
			}
			if round%2 == 1 && r.IntN(40) == 0 {
				delete(h, key(byte(i)))
			}
		}
		l := h.list()
		for i := range n {
			from := []string{key(byte(i))}
			if r.IntN(2) == 0 {
				from = append(from, key(byte(r.IntN(n))), key(byte(r.IntN(n))))
			}
			set, whole := h.reach(from)
			checkReach(t, "any", l, from, set, whole)
			if whole {
				full++
			} else {
				parts++
			}
		}
	}
	if full < 500 || parts < 500 {
		t.Errorf("%d times all was there, %d times not", full, parts)
	}
}

// numbered is a key that tells a number.
func numbered(n int) string { return fmt.Sprintf("%032d", n) }

// TestReachMost: P13.2, 2^16 objects: in one another, beside one another, and each naming many others; from 1000 keys.
func TestReachMost(t *testing.T) {
	link := func(next ...int) string {
		x := api.Node{Kind: api.NdDir}
		for i, n := range next {
			x.Entries = append(x.Entries, inDir(fmt.Sprintf("%02d", i), numbered(n)))
		}
		return node.Write(x)
	}
	var chain, towers, wide []api.Object
	for i := range mostObjects {
		next := (i + 1) % mostObjects
		chain = append(chain, object(numbered(i), link(next)))
		towers = append(towers, object(numbered(i), link(next, next, next, next, (i+7)%mostObjects)))
		wide = append(wide, object(numbered(i), "\x01x"))
	}
	for i := range 63 {
		x := api.Node{Kind: api.NdFile}
		for at := range mostParts {
			x.Parts = append(x.Parts, part(numbered(mostParts*(i+1)+at), 1))
		}
		wide[i] = object(numbered(i), node.Write(x))
	}
	var from []string
	for i := range 1000 {
		from = append(from, numbered((999-i)*65))
	}
	for name, l := range map[string][]api.Object{"chain": chain, "towers": towers} {
		inTime(t, func() {
			checkReach(t, name, l, []string{numbered(5)}, keysOf(l), true)
			checkReach(t, name, l, from, keysOf(l), true)
			broken := slices.Delete(slices.Clone(l), 70, 71)
			set, whole := fetch.Reach(broken, []string{numbered(71)})
			if len(set) != mostObjects || whole {
				t.Errorf("%s: with a gap %d keys are reached, %v", name, len(set), whole)
			}
		})
	}
	inTime(t, func() {
		some := keysOf(wide[:63])
		checkReach(t, "wide", wide, some, append(slices.Clone(some), keysOf(wide[mostParts:])...), true)
		checkReach(t, "pieces", wide, from[:900], slices.Sorted(slices.Values(from[:900])), true)
	})
}

// TestReachMore: P13.2, more keys than there are objects, or than a set is made of, most of which are not there.
func TestReachMore(t *testing.T) {
	h := heap{}
	want := map[string]bool{}
	var from []string
	for i := range 200 {
		x := api.Node{Kind: api.NdFile}
		for at := range mostParts {
			k := sum(fmt.Sprint(i, "/", at))
			x.Parts = append(x.Parts, part(k, 1))
			want[k] = true
		}
		k := h.node(x)
		want[k] = true
		from = append(from, k)
	}
	inTime(t, func() { checkReach(t, "more", h.list(), from, slices.Sorted(maps.Keys(want)), false) })
}
