package fetch_test

import (
	"encoding/hex"
	"fmt"
	"math/rand/v2"
	"slices"
	"strings"
	"testing"

	"silo/api"
	"silo/node"
	"silo/tree"
)

// listed is objects that are written down, a line each: the key, the bytes.
func listed(t *testing.T, s string) []api.Object {
	t.Helper()
	var l []api.Object
	for line := range strings.SplitSeq(strings.TrimSpace(s), "\n") {
		k, raw, _ := strings.Cut(line, " ")
		l = append(l, object(unhex(t, k), unhex(t, raw)))
	}
	return l
}

// unhex is bytes that are written down.
func unhex(t *testing.T, s string) string {
	t.Helper()
	b, err := hex.DecodeString(s)
	if err != nil {
		t.Fatal(err)
	}
	return string(b)
}

// ten are the objects, worked out outside the program, of a tree of five items.
const ten = `
5186fcc8ee19bcb97b9b8edb4217bd8c8bbc8fb2ec40368f60286b4e3718e385 01666768696a
5e25a2b009b423f2222f60344a9045731decda15164b77d409d288046b4bddb7 016162636465
67fdd91753d2f15275b89c84640fca6163d13501f084c32ff22bc02cc0754d8b 0304016103faa7d0d590f27de87dbc36523e627ec3d8c00c9e7e0ca8d67fb996d427d6404703612d620299be5efb88ca2013bd8e4eb035fd42d5245468fe9afa70d8ba9c1c419a48c4e80163039b4fb24edd6d1d8830e272398263cdbf026b97392cc35387b991dc0248a628f90164026c2e6bc380ee0827575f110c59e862323d9b6419dff20545fd3d9489ccdd9d33
6c2e6bc380ee0827575f110c59e862323d9b6419dff20545fd3d9489ccdd9d33 02025e25a2b009b423f2222f60344a9045731decda15164b77d409d288046b4bddb7055e25a2b009b423f2222f60344a9045731decda15164b77d409d288046b4bddb705
99be5efb88ca2013bd8e4eb035fd42d5245468fe9afa70d8ba9c1c419a48c4e8 0200
9b4fb24edd6d1d8830e272398263cdbf026b97392cc35387b991dc0248a628f9 0300
a5306e8b0f43c905e4d62315a00fd2281178d12d1ac325a4fbdeb02930aa006b 02055e25a2b009b423f2222f60344a9045731decda15164b77d409d288046b4bddb7055186fcc8ee19bcb97b9b8edb4217bd8c8bbc8fb2ec40368f60286b4e3718e38505f159a5849d07559cc47ffe247d3a0d86ee4f4cf5127aeef4499e2d5ba6ed620a03d0f014e6c7fde5705adbf57bdb8f8723301fcfb7e581d8eba875e51456ec4f5703b6ff45f1f8669ba78bed63598c2dcf33c276bcdb6df869e354faf5af2375f50001
b6ff45f1f8669ba78bed63598c2dcf33c276bcdb6df869e354faf5af2375f500 0170
d0f014e6c7fde5705adbf57bdb8f8723301fcfb7e581d8eba875e51456ec4f57 016d6e6f
f159a5849d07559cc47ffe247d3a0d86ee4f4cf5127aeef4499e2d5ba6ed620a 01206b6c
faa7d0d590f27de87dbc36523e627ec3d8c00c9e7e0ca8d67fb996d427d64047 0301017a06a5306e8b0f43c905e4d62315a00fd2281178d12d1ac325a4fbdeb02930aa006b
`

// number is the k-th number of a seed, as chapter 30 has it.
func number(seed uint64, k int) uint64 {
	for range k {
		seed = seed*6364136223846793005 + 1442695040888963407
	}
	return seed >> 33
}

// seeded is n bytes of a seed, as chapter 30 has them.
func seeded(seed uint64, n int) string {
	out := make([]byte, n)
	for k := range out {
		seed = seed*6364136223846793005 + 1442695040888963407
		out[k] = byte('a' + (seed>>33)%8)
	}
	return string(out)
}

// seededTree is a tree of a seed, as chapter 30 has it.
func seededTree(seed uint64) []api.Item {
	var l []api.Item
	for i, path := range []string{"a", "b", "d", "d/a", "d/c", "e", "e/f", "e/f/a"} {
		n := number(seed, i+1)
		switch {
		case path == "d" || path == "e" || path == "e/f":
			l = append(l, dirItem(path))
		case n%4 != 0:
			l = append(l, api.Item{Path: path, Exec: n%8 == 1, Data: seeded(seed+uint64(i+1), int(n%300))})
		}
	}
	return l
}

// above is the directory of a path; empty: the topmost.
func above(s string) string { return s[:max(0, strings.LastIndex(s, "/"))] }

// trees are all that are made of some paths, in order, each not there, a directory, a file, or one that can be run.
func trees(paths ...string) [][]api.Item {
	all := [][]api.Item{nil}
	for _, path := range paths {
		for _, l := range all {
			inside := above(path) == "" || slices.ContainsFunc(l, func(x api.Item) bool { return x.Dir && x.Path == above(path) })
			if !inside {
				continue
			}
			for _, x := range []api.Item{dirItem(path), fileItem(path, "abcdefghij klmnop"), program(path, "")} {
				all = append(all, append(slices.Clone(l), x))
			}
		}
	}
	return all
}

// many is sixty items: files, each other one of which can be run, and a directory.
func many(most int) []api.Item {
	var l []api.Item
	for i := range mostItems - 1 {
		l = append(l, api.Item{Path: fmt.Sprintf("m%04d", i), Exec: i%2 == 1, Data: seeded(uint64(i), min(1092+i%3, most))})
	}
	return append(l, dirItem("z"))
}

// anyTree is a tree that is fit, of files that are alike now and then.
func anyTree(r *rand.Rand) []api.Item {
	var l []api.Item
	dirs := []string{""}
	for range r.IntN(mostItems + 1) {
		at := dirs[r.IntN(len(dirs))]
		if at != "" {
			at += "/"
		}
		x := api.Item{Path: at + strings.Repeat(string([]byte{byte(r.IntN(256))}), 1+r.IntN(31)), Dir: r.IntN(3) == 0}
		if !x.Dir {
			x.Exec, x.Data = r.IntN(2) == 0, seeded(uint64(r.IntN(4)), r.IntN(1+r.IntN(1000)))
		}
		more, err := tree.Put(l, x)
		if err == api.OK && x.Dir {
			dirs = append(dirs, x.Path)
		}
		l = more
	}
	return l
}

// cuts are parameters that are fit.
func cuts() []api.Params {
	return []api.Params{params(2, 4, 8), params(1, 2, 2), params(1, 2, 4096), params(16, 64, 256), params(64, 64, 64), params(512, 1024, 4096), params(4096, 4096, 4096)}
}

// pools are keys of nodes of each kind, and of what is wrong.
type pools struct {
	heap
	r      *rand.Rand
	odds   int // how many are as asked for, till one is not; 0: all are
	great  int // bytes of the greatest pieces
	wide   int // entries of the greatest directories
	pieces []string
	files  []string
	dirs   []string
	wrong  []string
	sizes  map[string]int
}

// pick is a key of a list, or now and then another one.
func (p *pools) pick(l []string) string {
	if p.odds > 0 && p.r.IntN(p.odds) == 0 || len(l) == 0 {
		l = slices.Concat(p.wrong, p.wrong, p.pieces[:1], p.files[:min(1, len(p.files))], p.dirs[:min(1, len(p.dirs))])
	}
	return l[p.r.IntN(len(l))]
}

// newPieces makes pieces.
func (p *pools) newPieces(n int) {
	for i := range n {
		size := 1 + p.r.IntN(40)
		if p.r.IntN(3) == 0 {
			size = p.great - p.r.IntN(3)
		}
		k := p.piece(seeded(uint64(i+1), size))
		p.sizes[k] = size
		p.pieces = append(p.pieces, k)
	}
}

// newFile makes a file.
func (p *pools) newFile() {
	n := api.Node{Kind: api.NdFile}
	for range p.r.IntN(10) {
		k := p.pick(p.pieces)
		size := max(1, p.sizes[k])
		if p.odds > 0 && p.r.IntN(p.odds) == 0 {
			size = 1 + p.r.IntN(mostPiece)
		}
		n.Parts = append(n.Parts, part(k, size))
		if !node.Fit(n) {
			n.Parts = n.Parts[:len(n.Parts)-1]
		}
	}
	p.files = append(p.files, p.node(n))
}

// newDir makes a directory.
func (p *pools) newDir() {
	n := api.Node{Kind: api.NdDir}
	for i := range p.r.IntN(p.wide + 1) {
		name := fmt.Sprintf("%c%d", 'A'+i, p.r.IntN(100))
		if p.r.IntN(3) > 0 || len(p.dirs) == 0 {
			n.Entries = append(n.Entries, api.Entry{Name: name, Kind: api.NdFile, Exec: p.r.IntN(2) == 0, Key: p.pick(p.files)})
		} else {
			n.Entries = append(n.Entries, inDir(name, p.pick(p.dirs[max(0, len(p.dirs)-3):])))
		}
	}
	p.dirs = append(p.dirs, p.node(n))
}

// anyPools is objects that name one another, some of which are wrong.
func anyPools(r *rand.Rand, odds int) *pools {
	p := &pools{heap: heap{}, r: r, odds: odds, great: []int{9, mostPiece}[r.IntN(2)], wide: []int{2, 3, 9, 24}[r.IntN(4)], sizes: map[string]int{}}
	for i := range 3 {
		p.wrong = append(p.wrong, key(byte(100+i)), p.raw("\x00"+text(i)))
		p.heap[key(byte(200+i))] = "\x01" + text(i)
		p.wrong = append(p.wrong, key(byte(200+i)))
	}
	p.newPieces(8)
	for range 12 {
		p.newFile()
	}
	for range 40 {
		p.newDir()
	}
	return p
}
