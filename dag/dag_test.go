package dag_test

import (
	"crypto/sha256"
	"encoding/binary"
	"encoding/hex"
	"fmt"
	"math"
	"math/rand/v2"
	"slices"
	"strings"
	"testing"
	"time"

	"silo/api"
	"silo/cdc"
	"silo/dag"
	"silo/node"
	"silo/tree"
)

// What the chapters name.
const (
	mostItems = 60
	mostFile  = 32768
	mostAll   = 65536
	mostParts = 1024
	keySize   = 32
)

func params(least, usual, greatest int) api.Params {
	return api.Params{Min: least, Avg: usual, Max: greatest}
}

func dir(path string) api.Item { return api.Item{Path: path, Dir: true} }

func file(path, data string) api.Item { return api.Item{Path: path, Data: data} }

func program(path, data string) api.Item { return api.Item{Path: path, Exec: true, Data: data} }

func object(key, raw string) api.Object { return api.Object{Key: key, Raw: raw} }

func text(n int) string { return strings.Repeat("x", n) }

// key is a key of one byte, again and again.
func key(b byte) string { return strings.Repeat(string([]byte{b}), keySize) }

// number is the k-th number of a seed, as chapter 30 has it.
func number(seed uint64, k int) uint64 {
	for range k {
		seed = seed*6364136223846793005 + 1442695040888963407
	}
	return seed >> 33
}

// seeded is n bytes of a seed, as chapter 30 has them.
func seeded(seed uint64, n int) string {
	out := make([]byte, n)
	for k := range out {
		seed = seed*6364136223846793005 + 1442695040888963407
		out[k] = byte('a' + (seed>>33)%8)
	}
	return string(out)
}

// seededTree is a tree of a seed, as chapter 30 has it.
func seededTree(seed uint64) []api.Item {
	var l []api.Item
	for i, path := range []string{"a", "b", "d", "d/a", "d/c", "e", "e/f", "e/f/a"} {
		n := number(seed, i+1)
		switch {
		case path == "d" || path == "e" || path == "e/f":
			l = append(l, dir(path))
		case n%4 != 0:
			l = append(l, api.Item{Path: path, Exec: n%8 == 1, Data: seeded(seed+uint64(i+1), int(n%300))})
		}
	}
	return l
}

// short is a tree in words that can be read in a failure.
func short(l []api.Item) string {
	var out strings.Builder
	for i, x := range l {
		if i == 8 {
			fmt.Fprintf(&out, "and %d more", len(l)-i)
			break
		}
		fmt.Fprintf(&out, "{%.40q dir %v exec %v %.10q/%d} ", x.Path, x.Dir, x.Exec, x.Data, len(x.Data))
	}
	return out.String()
}

// brief is objects in words that can be read in a failure.
func brief(l []api.Object) string {
	var out strings.Builder
	for i, x := range l {
		if i == 8 {
			fmt.Fprintf(&out, "and %d more", len(l)-i)
			break
		}
		fmt.Fprintf(&out, "{%.4x/%d %.10x/%d} ", x.Key, len(x.Key), x.Raw, len(x.Raw))
	}
	return out.String()
}

// same holds two lists against each other, field by field.
func same(a, b []api.Object) bool {
	if len(a) != len(b) {
		return false
	}
	for i := range a {
		if a[i].Key != b[i].Key || a[i].Raw != b[i].Raw {
			return false
		}
	}
	return true
}

// isFit is what the chapter says of objects.
func isFit(l []api.Object) bool {
	for i, x := range l {
		if len(x.Key) != keySize || i > 0 && strings.Compare(l[i-1].Key, x.Key) != -1 {
			return false
		}
	}
	return true
}

// sum is a text's sum, as the library tells it.
func sum(s string) string {
	b := sha256.Sum256([]byte(s))
	return string(b[:])
}

// above is the directory of a path; empty: the topmost.
func above(s string) string { return s[:max(0, strings.LastIndex(s, "/"))] }

// last is a path's last name.
func last(s string) string { return s[strings.LastIndex(s, "/")+1:] }

// slow is objects by their keys, as the chapter words them.
type slow map[string]string

// put is the key of bytes, which are put in.
func (o slow) put(raw []byte) string {
	k := sum(string(raw))
	o[k] = string(raw)
	return k
}

// file puts in a file and its pieces.
func (o slow) file(p api.Params, data string) string {
	pieces := cdc.Pieces(p, data)
	raw := binary.AppendUvarint([]byte{2}, uint64(len(pieces)))
	for _, s := range pieces {
		raw = append(raw, o.put(append([]byte{1}, s...))...)
		raw = binary.AppendUvarint(raw, uint64(len(s)))
	}
	return o.put(raw)
}

// dir puts in a directory and all below it.
func (o slow) dir(p api.Params, l []api.Item, at string) string {
	var in []api.Item
	for _, x := range l {
		if above(x.Path) == at {
			in = append(in, x)
		}
	}
	slices.SortFunc(in, func(a, b api.Item) int { return strings.Compare(a.Path, b.Path) })
	raw := binary.AppendUvarint([]byte{3}, uint64(len(in)))
	for _, x := range in {
		name := last(x.Path)
		raw = append(binary.AppendUvarint(raw, uint64(len(name))), name...)
		switch {
		case x.Dir:
			raw = append(append(raw, 3), o.dir(p, l, x.Path)...)
		case x.Exec:
			raw = append(append(raw, 6), o.file(p, x.Data)...)
		default:
			raw = append(append(raw, 2), o.file(p, x.Data)...)
		}
	}
	return o.put(raw)
}

// slowBuild is P12.1 as the chapter words it.
func slowBuild(p api.Params, l []api.Item) (string, []api.Object) {
	o := slow{}
	top := o.dir(p, l, "")
	var out []api.Object
	for k, raw := range o {
		out = append(out, object(k, raw))
	}
	slices.SortFunc(out, func(a, b api.Object) int { return strings.Compare(a.Key, b.Key) })
	return top, out
}

// raws is the bytes of some objects by their keys.
func raws(l []api.Object) map[string]string {
	out := map[string]string{}
	for _, x := range l {
		out[x.Key] = x.Raw
	}
	return out
}

// holdsBuild holds Build against the chapter, and what it was given against what that was; it tells the key and the objects.
func holdsBuild(t *testing.T, p api.Params, l []api.Item) (string, []api.Object) {
	t.Helper()
	if !cdc.Fit(p) || !tree.Fit(l) {
		t.Fatalf("%v or %s is not fit", p, short(l))
	}
	given := slices.Clone(l)
	want, wanted := slowBuild(p, l)
	top, objects := dag.Build(p, l)
	if top != want || !same(objects, wanted) {
		t.Fatalf("Build(%v, %s) = %x, %s, not %x, %s", p, short(l), top, brief(objects), want, brief(wanted))
	}
	if !slices.Equal(l, given) {
		t.Fatalf("Build changed %s to %s", short(given), short(l))
	}
	if !isFit(objects) || !dag.Fit(objects) {
		t.Fatalf("Build(%v, %s) = %s, which is not fit", p, short(l), brief(objects))
	}
	holdsNamed(t, top, objects)
	return top, objects
}

// holdsNamed holds P12.3 and P12.4 of objects that were built: keys are sums, the topmost one is a directory's, what is named is there, and all is named but the topmost one.
func holdsNamed(t *testing.T, top string, l []api.Object) {
	t.Helper()
	known := raws(l)
	named := map[string]int{top: 1}
	for _, x := range l {
		n, err := node.Read(x.Raw)
		if x.Key != sum(x.Raw) || x.Key != node.Key(n) || err != api.OK {
			t.Fatalf("%s has another key, or is no node", brief([]api.Object{x}))
		}
		if x.Key == top && n.Kind != api.NdDir {
			t.Fatalf("the topmost one is %s", brief([]api.Object{x}))
		}
		for _, k := range node.Kids(n) {
			named[k]++
			if _, there := known[k]; !there {
				t.Fatalf("%s names %.4x, which is not there", brief([]api.Object{x}), k)
			}
		}
	}
	for _, x := range l {
		if named[x.Key] == 0 {
			t.Fatalf("%s is not named", brief([]api.Object{x}))
		}
	}
	if _, there := known[top]; !there {
		t.Fatalf("the topmost key %.4x is not there", top)
	}
}

// fits are parameters that are fit.
func fits() []api.Params {
	return []api.Params{params(2, 4, 8), params(1, 2, 2), params(1, 2, 4096), params(16, 64, 256), params(64, 64, 64), params(512, 1024, 4096), params(4096, 4096, 4096)}
}

// trees are all that are made of some paths, in order, each not there, a directory, a file, or one that can be run.
func trees(paths ...string) [][]api.Item {
	all := [][]api.Item{nil}
	for _, path := range paths {
		for _, l := range all {
			inside := above(path) == "" || slices.ContainsFunc(l, func(x api.Item) bool { return x.Dir && x.Path == above(path) })
			if !inside {
				continue
			}
			for _, x := range []api.Item{dir(path), file(path, "abcdefghij klmnop"), program(path, "")} {
				all = append(all, append(slices.Clone(l), x))
			}
		}
	}
	return all
}

// smallTrees are trees of up to seven items, whose paths begin alike.
func smallTrees() [][]api.Item {
	return append(trees("a", "a/b", "a/b/c", "a/z", "a-b", "ab", "b"), trees("a", "a/-", "a/a", "a/a/a", "a/a/a/a", "aa", "aa/a")...)
}

// many is sixty items: files of a bit more than a thousand bytes, each other one, and a directory.
func many(most int) []api.Item {
	var l []api.Item
	for i := range mostItems - 1 {
		l = append(l, api.Item{Path: fmt.Sprintf("m%04d", i), Exec: i%2 == 1, Data: seeded(uint64(i), min(1092+i%3, most))})
	}
	return append(l, dir("z"))
}

// deepest is seven directories in one another, and a file in the last one.
func deepest(data string) []api.Item {
	var l []api.Item
	path := "d"
	for range 7 {
		l = append(l, dir(path))
		path += "/d"
	}
	return append(l, program(path, data))
}

// anyTree is a tree that is fit, of files that are alike now and then.
func anyTree(r *rand.Rand) []api.Item {
	var l []api.Item
	dirs := []string{""}
	for range r.IntN(mostItems + 1) {
		at := dirs[r.IntN(len(dirs))]
		if at != "" {
			at += "/"
		}
		x := api.Item{Path: at + strings.Repeat(string([]byte{byte(r.IntN(256))}), 1+r.IntN(31)), Dir: r.IntN(3) == 0}
		if !x.Dir {
			x.Exec, x.Data = r.IntN(2) == 0, seeded(uint64(r.IntN(4)), r.IntN(1+r.IntN(1000)))
		}
		more, err := tree.Put(l, x)
		if err == api.OK && x.Dir {
			dirs = append(dirs, x.Path)
		}
		l = more
	}
	return l
}

// TestExample: the chapter's examples.
func TestExample(t *testing.T) {
	for _, p := range fits() {
		for _, l := range [][]api.Item{nil, {}} {
			top, objects := dag.Build(p, l)
			if len(objects) != 1 || objects[0].Raw != "\x03\x00" || objects[0].Key != top {
				t.Errorf("Build of nothing = %x, %s", top, brief(objects))
			}
			if hex.EncodeToString([]byte(top)) != "9b4fb24edd6d1d8830e272398263cdbf026b97392cc35387b991dc0248a628f9" {
				t.Errorf("the key of nothing is %x", top)
			}
		}
	}
}

// TestBuildWorkedOut: P12.1, objects that were worked out outside the program.
func TestBuildWorkedOut(t *testing.T) {
	for _, c := range []struct {
		p    api.Params
		l    []api.Item
		top  string
		want string
	}{
		{params(16, 64, 256), []api.Item{dir("d"), file("d/f", "hello")}, "570123c3e0e37d6aae3f82782274d36918411a9d0f8a79e09623ec6c47a3b83a", `
570123c3e0e37d6aae3f82782274d36918411a9d0f8a79e09623ec6c47a3b83a 0301016403f884015cbbb8ade567f64d4e3f3c62018ac869ca3c5cf5adfe72b05683becce1
bbd6889ce6bb0fae3f8685e698ce967c037e1d9924f22824211122e56288af9a 0201cceeb7a985ecc3dabcb4c8f666cd637f16f008e3c963db6aa6f83a7b288c54ef05
cceeb7a985ecc3dabcb4c8f666cd637f16f008e3c963db6aa6f83a7b288c54ef 0168656c6c6f
f884015cbbb8ade567f64d4e3f3c62018ac869ca3c5cf5adfe72b05683becce1 0301016602bbd6889ce6bb0fae3f8685e698ce967c037e1d9924f22824211122e56288af9a
`},
		{params(2, 4, 8), []api.Item{dir("a"), program("a/z", "abcdefghij klmnop"), file("a-b", ""), dir("c"), file("d", "abcdeabcde")}, "67fdd91753d2f15275b89c84640fca6163d13501f084c32ff22bc02cc0754d8b", `
5186fcc8ee19bcb97b9b8edb4217bd8c8bbc8fb2ec40368f60286b4e3718e385 01666768696a
5e25a2b009b423f2222f60344a9045731decda15164b77d409d288046b4bddb7 016162636465
67fdd91753d2f15275b89c84640fca6163d13501f084c32ff22bc02cc0754d8b 0304016103faa7d0d590f27de87dbc36523e627ec3d8c00c9e7e0ca8d67fb996d427d6404703612d620299be5efb88ca2013bd8e4eb035fd42d5245468fe9afa70d8ba9c1c419a48c4e80163039b4fb24edd6d1d8830e272398263cdbf026b97392cc35387b991dc0248a628f90164026c2e6bc380ee0827575f110c59e862323d9b6419dff20545fd3d9489ccdd9d33
6c2e6bc380ee0827575f110c59e862323d9b6419dff20545fd3d9489ccdd9d33 02025e25a2b009b423f2222f60344a9045731decda15164b77d409d288046b4bddb7055e25a2b009b423f2222f60344a9045731decda15164b77d409d288046b4bddb705
99be5efb88ca2013bd8e4eb035fd42d5245468fe9afa70d8ba9c1c419a48c4e8 0200
9b4fb24edd6d1d8830e272398263cdbf026b97392cc35387b991dc0248a628f9 0300
a5306e8b0f43c905e4d62315a00fd2281178d12d1ac325a4fbdeb02930aa006b 02055e25a2b009b423f2222f60344a9045731decda15164b77d409d288046b4bddb7055186fcc8ee19bcb97b9b8edb4217bd8c8bbc8fb2ec40368f60286b4e3718e38505f159a5849d07559cc47ffe247d3a0d86ee4f4cf5127aeef4499e2d5ba6ed620a03d0f014e6c7fde5705adbf57bdb8f8723301fcfb7e581d8eba875e51456ec4f5703b6ff45f1f8669ba78bed63598c2dcf33c276bcdb6df869e354faf5af2375f50001
b6ff45f1f8669ba78bed63598c2dcf33c276bcdb6df869e354faf5af2375f500 0170
d0f014e6c7fde5705adbf57bdb8f8723301fcfb7e581d8eba875e51456ec4f57 016d6e6f
f159a5849d07559cc47ffe247d3a0d86ee4f4cf5127aeef4499e2d5ba6ed620a 01206b6c
faa7d0d590f27de87dbc36523e627ec3d8c00c9e7e0ca8d67fb996d427d64047 0301017a06a5306e8b0f43c905e4d62315a00fd2281178d12d1ac325a4fbdeb02930aa006b
`},
	} {
		top, objects := holdsBuild(t, c.p, c.l)
		out := "\n"
		for _, x := range objects {
			out += hex.EncodeToString([]byte(x.Key)) + " " + hex.EncodeToString([]byte(x.Raw)) + "\n"
		}
		if hex.EncodeToString([]byte(top)) != c.top || out != c.want {
			t.Errorf("Build(%v, %s) = %x,%s", c.p, short(c.l), top, out)
		}
	}
}

// TestBuildKeys: P12.1, topmost keys, and how many objects there are, of greater trees: those of seed 7, and how many of seed 3, stand in the document, all else was worked out outside the program.
func TestBuildKeys(t *testing.T) {
	for _, c := range []struct {
		name  string
		p     api.Params
		l     []api.Item
		top   string
		count int
	}{
		{"of seed 7", params(16, 64, 256), seededTree(7), "505f4c92b7bc58b7", 19},
		{"of seed 3", params(16, 64, 256), seededTree(3), "25d2aca57029844a", 15},
		{"of sixty items", params(2, 4, 8), many(1094), "840cb3a81946b9209ef5273ad6835bdb4fecaa72ebd8487a77cdb7f808617e86", 9163},
		{"of sixty items", params(1, 2, 2), many(1024), "038ee82c0eb66586169ebc539217674ec3e62b9d5b70ca27631739e466c31ba6", 125},
		{"of sixty items", params(1, 2, 4096), many(1094), "da4ae5d187e2371bfd8cb020188980e503cb2e2cf6ee0f2758457b51ea3fcf30", 483},
		{"of sixty items", params(64, 64, 64), many(1094), "332fb5df7636af127d3f681a66f02b9be038170f3b2636abfb3294dfdbc33590", 1123},
		{"of sixty items", params(512, 1024, 4096), many(1094), "f950e8f2554c7aa4add0742ac5f150fde311866d9c320ffe753cfd7ce1a33ed0", 137},
		{"of sixty items", params(4096, 4096, 4096), many(1094), "6f8bf4b92fdbe87dec954c558e67c0b7c68e40e925ec162e1b2220fcd1d02b5e", 120},
		{"of eight names", params(16, 64, 256), deepest(seeded(9, mostFile)), "cb2db0e7861b19beb1833a5b7f2cd98451dd6194f8bffcce714d866bd63b342c", 431},
		{"of 1024 pieces", params(32, 32, 32), deepest(seeded(9, mostFile)), "b22162decf00f994a13f04c0aa80e4313eb1e5bae1757a26b10afa625e7ce667", 1033},
		{"of great pieces", params(512, 1024, 4096), deepest(seeded(9, mostFile)), "aafeedc5296f8d344815d3b6180ac5b8e2ff3f764b5dcd28ce564cc9b4a47d5f", 35},
	} {
		top, objects := holdsBuild(t, c.p, c.l)
		if !strings.HasPrefix(hex.EncodeToString([]byte(top)), c.top) || len(objects) != c.count {
			t.Errorf("%s, with %v: %x, %d objects", c.name, c.p, top, len(objects))
		}
	}
}

// TestBuildSmall: P12.1, P12.3 and P12.4, all small trees, of which no two have one key.
func TestBuildSmall(t *testing.T) {
	for _, p := range []api.Params{params(2, 4, 8), params(512, 1024, 4096)} {
		known := map[string][]api.Item{}
		for _, l := range smallTrees() {
			top, _ := holdsBuild(t, p, l)
			if other, there := known[top]; there && !slices.Equal(other, l) {
				t.Fatalf("%s and %s have one key", short(l), short(other))
			}
			known[top] = l
		}
		if len(known) < 1000 {
			t.Errorf("just %d trees were built", len(known))
		}
	}
}

// TestBuildAny: P12.1, P12.3 and P12.4, trees of all kinds, cut in all ways.
func TestBuildAny(t *testing.T) {
	r := rand.New(rand.NewPCG(12, 1))
	alike, most := 0, 0
	for range 60 {
		l := anyTree(r)
		most = max(most, len(l))
		for _, p := range fits() {
			if slices.ContainsFunc(l, func(x api.Item) bool { return len(cdc.Pieces(p, x.Data)) > mostParts }) {
				continue
			}
			top, objects := holdsBuild(t, p, l)
			again, same := dag.Build(p, slices.Clone(l))
			if again != top || !dag.Same(same, objects) {
				t.Fatalf("%s has two keys", short(l))
			}
			all := 1 + len(l)
			for _, x := range l {
				all += len(cdc.Pieces(p, x.Data))
			}
			if len(objects) < all {
				alike++
			}
		}
	}
	if alike < 200 || most < 40 {
		t.Errorf("%d times things were alike, and no tree had more than %d items", alike, most)
	}
}

// TestBuildEdges: P12.1, files and trees at the limits.
func TestBuildEdges(t *testing.T) {
	zeros := strings.Repeat("\x00", mostFile)
	for _, c := range []struct {
		name  string
		p     api.Params
		l     []api.Item
		count int
	}{
		{"a file of nothing", params(2, 4, 8), []api.Item{file("a", "")}, 2},
		{"a directory of nothing", params(2, 4, 8), []api.Item{dir("a")}, 2},
		{"nothing but directories", params(2, 4, 8), []api.Item{dir("a"), dir("b"), dir("c")}, 2},
		{"directories in one another", params(2, 4, 8), []api.Item{dir("a"), dir("a/b"), dir("a/b/c")}, 4},
		{"a file of one byte", params(2, 4, 8), []api.Item{file("a", "x")}, 3},
		{"two files that are alike", params(2, 4, 8), []api.Item{file("a", "x"), program("b", "x")}, 3},
		{"two directories that are alike", params(2, 4, 8), []api.Item{dir("a"), file("a/f", "x"), dir("b"), file("b/f", "x")}, 4},
		{"a directory that is as the topmost one of another", params(2, 4, 8), []api.Item{dir("a"), dir("a/a"), dir("a/a/a")}, 4},
		{"a file whose bytes are a node's", params(2, 4, 8), []api.Item{file("a", "\x03\x00"), dir("b"), file("c", "\x00"), file("d", "")}, 7},
		{"1024 pieces of two bytes", params(2, 2, 2), []api.Item{file("a", strings.Repeat("ab", 1024))}, 3},
		{"1024 pieces", params(32, 32, 32), []api.Item{file("a", seeded(1, mostFile))}, 1024 + 2},
		{"1024 pieces that are alike", params(32, 32, 32), []api.Item{file("a", zeros)}, 3},
		{"8 pieces that are alike", params(4096, 4096, 4096), []api.Item{file("a", zeros), file("b", zeros)}, 3},
		{"65536 bytes in all", params(32, 32, 32), []api.Item{file("a", seeded(1, mostFile)), file("b", seeded(2, mostFile))}, 2*1025 + 1},
		{"sixty files of nothing", params(2, 4, 8), emptyFiles(), 2},
		{"names of 31 bytes", params(2, 4, 8), deepNames(), 10},
	} {
		if slices.ContainsFunc(c.l, func(x api.Item) bool { return len(cdc.Pieces(c.p, x.Data)) > mostParts }) {
			t.Fatalf("%s: a file has too many pieces", c.name)
		}
		_, objects := holdsBuild(t, c.p, c.l)
		if len(objects) != c.count {
			t.Errorf("%s: %d objects, %s", c.name, len(objects), brief(objects))
		}
	}
}

// emptyFiles is sixty files of nothing.
func emptyFiles() []api.Item {
	var l []api.Item
	for i := range mostItems {
		l = append(l, file(fmt.Sprintf("m%04d", i), ""))
	}
	return l
}

// deepNames is eight names of 31 bytes each, in one another.
func deepNames() []api.Item {
	var l []api.Item
	path := ""
	for i := range 8 {
		path += strings.Repeat(string([]byte{byte(128 + i)}), 31)
		l = append(l, dir(path))
		path += "/"
	}
	l[7] = file(l[7].Path, "x")
	return l
}

// TestBuildOrder: P12.1, a directory's names in their order, where paths' bytes have another one, and what is below a directory in it alone.
func TestBuildOrder(t *testing.T) {
	l := []api.Item{dir("a"), file("a/a", "1"), dir("a/b"), file("a/b/a", "2"), file("a/b-", "3"), file("a-", "4"), file("a.b", "5"), dir("aa"), file("aa/a", "6"), dir("b"), dir("b/a")}
	top, objects := holdsBuild(t, params(2, 4, 8), l)
	for _, c := range []struct{ path, names string }{
		{"", "a:3 a-:2 a.b:2 aa:3 b:3"}, {"a", "a:2 b:3 b-:2"}, {"a/b", "a:2"}, {"aa", "a:2"}, {"b", "a:3"}, {"b/a", ""},
	} {
		k := top
		for name := range strings.SplitSeq(c.path, "/") {
			for _, x := range dirOf(t, objects, k).Entries {
				if x.Name == name {
					k = x.Key
					break
				}
			}
		}
		var names []string
		for _, x := range dirOf(t, objects, k).Entries {
			names = append(names, fmt.Sprintf("%s:%d", x.Name, x.Kind))
		}
		if got := strings.Join(names, " "); got != c.names {
			t.Errorf("in %q is %q", c.path, got)
		}
	}
}

// dirOf is the directory of a key.
func dirOf(t *testing.T, l []api.Object, k string) api.Node {
	t.Helper()
	n, err := node.Read(raws(l)[k])
	if err != api.OK || n.Kind != api.NdDir {
		t.Fatalf("%.4x is no directory", k)
	}
	return n
}

// TestOneMore: P12.4, a tree of one more file, and one that has anything else unlike, has another key.
func TestOneMore(t *testing.T) {
	r := rand.New(rand.NewPCG(12, 4))
	p := params(16, 64, 256)
	for range 60 {
		l := anyTree(r)
		top, _ := dag.Build(p, l)
		differs := func(name string, other []api.Item, err api.Errno) {
			t.Helper()
			if k, _ := dag.Build(p, other); err == api.OK && k == top {
				t.Fatalf("%s with %s has the same key", short(l), name)
			}
		}
		for _, x := range []api.Item{file("one more", ""), file("one more", "x"), program("one more", ""), dir("one more")} {
			more, err := tree.Put(l, x)
			differs("one more", more, err)
		}
		for _, x := range l {
			less, err := tree.Drop(l, x.Path)
			differs("one less", less, err)
			other := x
			if x.Dir {
				more, err := tree.Put(l, file(x.Path+"/one more", ""))
				differs("one more in a directory", more, err)
				if len(tree.Names(l, x.Path)) == 0 {
					kind, err := tree.Put(less, file(x.Path, ""))
					differs("a file in a directory's place", kind, err)
				}
				continue
			}
			other.Exec = !x.Exec
			turned, err := tree.Put(l, other)
			differs("one that can be run, or not", turned, err)
			other = x
			other.Data = "x" + x.Data
			longer, err := tree.Put(l, other)
			differs("one byte more", longer, err)
		}
	}
}

// lists are objects that are fit.
func lists() [][]api.Object {
	var long []api.Object
	for b := range 256 {
		long = append(long, object(key(byte(b)), text(b)))
	}
	_, built := dag.Build(params(2, 4, 8), seededTree(7))
	return [][]api.Object{
		nil, {}, {object(key(0), "")}, {object(key(255), "x")}, {object(key(1), "x"), object(key(2), "x")}, {object(key('a'), ""), object(key('a')[1:]+"b", ""), object(key('b'), "")},
		long, long[1:], long[:255], built, {object("A"+key('a')[1:], "1"), object(key('a'), "2"), object("\x80"+key('a')[1:], "3")},
	}
}

// TestFit: P12.2, objects that are fit, and what is none by one thing alone.
func TestFit(t *testing.T) {
	for _, l := range lists() {
		if !dag.Fit(l) || !isFit(l) {
			t.Errorf("Fit(%s) = false", brief(l))
		}
		for i, x := range l {
			for _, k := range []string{"", x.Key[1:], x.Key + "\x00", x.Key + x.Key, x.Key[:1]} {
				other := slices.Clone(l)
				other[i].Key = k
				if dag.Fit(other) {
					t.Errorf("Fit(%s), where the key at %d has %d bytes, = true", brief(other), i, len(k))
				}
			}
			twice := slices.Insert(slices.Clone(l), i, object(x.Key, "other"))
			if dag.Fit(twice) {
				t.Errorf("Fit(%s), where that at %d stands twice, = true", brief(twice), i)
			}
			if i == 0 {
				continue
			}
			other := slices.Clone(l)
			other[i-1], other[i] = other[i], other[i-1]
			if dag.Fit(other) {
				t.Errorf("Fit(%s), where that at %d is turned round with the one ahead, = true", brief(other), i)
			}
		}
	}
}

// TestSame: P12.2, one list is the same as itself, and as no other one.
func TestSame(t *testing.T) {
	for _, l := range lists() {
		if !dag.Same(l, slices.Clone(l)) || !dag.Same(l, l) {
			t.Errorf("%s is not the same as itself", brief(l))
		}
		for i := range l {
			for name, turn := range map[string]func(*api.Object){
				"Key": func(x *api.Object) { x.Key += "!" },
				"Raw": func(x *api.Object) { x.Raw += "!" },
			} {
				other := slices.Clone(l)
				turn(&other[i])
				if dag.Same(l, other) || dag.Same(other, l) {
					t.Errorf("with another %s at %d they are the same", name, i)
				}
			}
			if dag.Same(l, l[:i]) || dag.Same(l[:i], l) || dag.Same(l, slices.Delete(slices.Clone(l), i, i+1)) {
				t.Errorf("with another number of them than %d they are the same", len(l))
			}
		}
	}
	if !dag.Same(nil, []api.Object{}) || !dag.Same([]api.Object{}, nil) {
		t.Error("nothing is not the same as nothing")
	}
	unfit := []api.Object{object("b", ""), object("a", ""), object("a", "")}
	if !dag.Same(unfit, slices.Clone(unfit)) || dag.Same(unfit, []api.Object{unfit[1], unfit[0], unfit[2]}) {
		t.Error("of objects that are not fit another order is the same, or they themselves are not")
	}
}

// around are keys, and texts that are none, beside those of a list.
func around(l []api.Object) []string {
	out := []string{"", "\x00", text(31), text(32), text(33), key(0), key(0)[1:], key(255), key(255) + "\xff", key('a'), key('a')[1:] + "b", key('a')[1:] + "`", text(65536)}
	for _, x := range l {
		out = append(out, x.Key, x.Key[1:], x.Key[:31], x.Key+"\x00", x.Key[:31]+"\x00", x.Key[:31]+"\xff", "\x00"+x.Key[1:], "\xff"+x.Key[1:], strings.ToUpper(x.Key))
	}
	return out
}

// TestGet: P12.2, the bytes of each key that is there, and none of others.
func TestGet(t *testing.T) {
	for _, l := range lists() {
		known := raws(l)
		for _, k := range around(l) {
			want, there := known[k]
			if raw, found := dag.Get(l, k); raw != want || found != there {
				t.Errorf("Get(%s, %.80x) = %.20x, %v", brief(l), k, raw, found)
			}
		}
	}
}

// slowAdd is P12.2's Add as the chapter words it.
func slowAdd(l []api.Object, x api.Object) []api.Object {
	if _, there := raws(l)[x.Key]; there || len(x.Key) != keySize {
		return l
	}
	out := append(slices.Clone(l), x)
	slices.SortFunc(out, func(a, b api.Object) int { return strings.Compare(a.Key, b.Key) })
	return out
}

// TestAdd: P12.2, objects of keys that are there, that are not, and of what is no key.
func TestAdd(t *testing.T) {
	for _, l := range lists() {
		given := slices.Clone(l)
		for _, k := range around(l) {
			for _, raw := range []string{"", "other", "\x03\x00"} {
				x := object(k, raw)
				got := dag.Add(l, x)
				if !same(got, slowAdd(l, x)) || !dag.Fit(got) {
					t.Errorf("Add(%s, %s) = %s", brief(l), brief([]api.Object{x}), brief(got))
				}
				_, was := raws(l)[k]
				if now, there := dag.Get(got, k); there != (len(k) == keySize) || there && !was && now != raw {
					t.Errorf("behind Add(%s, %s) Get tells %.20x, %v", brief(l), brief([]api.Object{x}), now, there)
				}
				if !same(l, given) {
					t.Fatalf("Add changed %s to %s", brief(given), brief(l))
				}
			}
		}
	}
}

// TestAddAny: P12.2, objects that are added one by one, in any order, some twice.
func TestAddAny(t *testing.T) {
	r := rand.New(rand.NewPCG(12, 2))
	_, want := dag.Build(params(16, 64, 256), many(1094))
	for range 5 {
		left := append(slices.Clone(want), want[:100]...)
		r.Shuffle(len(left), func(i, k int) { left[i], left[k] = left[k], left[i] })
		var l []api.Object
		for _, x := range left {
			l = dag.Add(l, x)
			if raw, there := dag.Get(l, x.Key); !there || raw != x.Raw {
				t.Fatalf("%s is not there", brief([]api.Object{x}))
			}
			l = dag.Add(l, object(x.Key, "other"))
		}
		if !same(l, want) {
			t.Fatalf("they came to %s", brief(l))
		}
	}
}

// TestNewMemory: 0.5, what is told shares no list with what was given, nor with what is told again.
func TestNewMemory(t *testing.T) {
	l := append(make([]api.Object, 0, 10), object(key(1), "1"), object(key(3), "3"))
	given := slices.Clone(l)
	calls := map[string]func() []api.Object{
		"Add of one behind":        func() []api.Object { return dag.Add(l, object(key(4), "4")) },
		"Add of one between":       func() []api.Object { return dag.Add(l, object(key(2), "2")) },
		"Add of one ahead":         func() []api.Object { return dag.Add(l, object(key(0), "0")) },
		"Add of one that is there": func() []api.Object { return dag.Add(l, object(key(1), "other")) },
		"Add of what has no key":   func() []api.Object { return dag.Add(l, object("key", "")) },
		"Build":                    func() []api.Object { _, m := dag.Build(params(2, 4, 8), seededTree(7)); return m },
	}
	for name, call := range calls {
		first, again := call(), call()
		whole := slices.Clone(again)
		for i := range first {
			first[i] = object("other", "other")
		}
		_ = append(first, object("more", "more"))
		if !same(again, whole) {
			t.Errorf("%s tells one list twice", name)
		}
		if !same(l, given) || !same(l[:4][2:], make([]api.Object, 2)) {
			t.Errorf("%s tells the list that it was given", name)
		}
	}
}

// unfitTrees are lists of which nothing is promised but that calls end.
func unfitTrees(r *rand.Rand) [][]api.Item {
	deep := strings.TrimSuffix(strings.Repeat("a/", 1000), "/")
	odd := []api.Item{
		{}, dir(""), file("", "x"), dir("/"), dir("a"), dir("a"), dir("a/a"), dir("a/a/a"), file("a", "x"), file("a/a", "y"), file("b/c", ""), dir("a//b"), dir("."), dir(".."), file("a\x00", ""), dir(text(32)), file(text(65536), ""), dir(deep),
		{Path: "c", Dir: true, Data: "x"}, {Path: "c", Dir: true, Exec: true}, file("big", text(mostFile+1)), file("bigger", text(1<<20)), file("e", text(mostFile)), file("f", seeded(1, mostFile)),
	}
	all := [][]api.Item{odd, {dir("a"), dir("a")}, {file("b", ""), file("a", "")}, {file("a/b", "")}, {file("a", ""), file("a/b", "")}, many(2000), append(many(1000), file("zz", "")), {file("a", text(1<<26))}}
	for _, x := range odd {
		all = append(all, []api.Item{x}, slices.Repeat([]api.Item{x}, 50), slices.Repeat([]api.Item{x}, 100000))
	}
	// Each directory of many stands many times over the next one.
	var towers []api.Item
	for _, x := range deepest("") {
		towers = append(towers, slices.Repeat([]api.Item{{Path: x.Path, Dir: true}}, 7)...)
	}
	all = append(all, towers, slices.Repeat(towers, 100))
	for n := range 200 {
		var l []api.Item
		for range n {
			l = append(l, odd[r.IntN(len(odd))])
		}
		all = append(all, l)
	}
	return all
}

// unfitParams are parameters that are not fit.
func unfitParams() []api.Params {
	return []api.Params{{}, params(0, 4, 8), params(-1, 4, 8), params(5, 4, 8), params(2, 3, 8), params(2, 4, 3), params(2, 4, 4097), params(1, 1, 1), params(math.MinInt, math.MinInt, math.MinInt), params(math.MaxInt, math.MaxInt, math.MaxInt)}
}

// unfitObjects are objects that are not fit, or are many.
func unfitObjects(r *rand.Rand) [][]api.Object {
	all := [][]api.Object{{{}}, {{}, {}}, {object("b", ""), object("a", "")}, {object(key(2), "2"), object(key(1), "1")}, {object(key(1), "1"), object(key(1), "2")}, slices.Repeat([]api.Object{object(key(1), "")}, 100000), {object(text(1<<20), text(1<<20))}}
	for n := range 100 {
		var l []api.Object
		for range n {
			l = append(l, object(text(r.IntN(34))+key(byte(r.Uint32()))[r.IntN(33):], text(r.IntN(3))))
		}
		all = append(all, l)
	}
	return all
}

// TestAny: 0.1, any arguments, up to great ones: each call ends, and none panics; 0.3, of what can't be built there is neither key nor object.
func TestAny(t *testing.T) {
	r := rand.New(rand.NewPCG(12, 6))
	done := make(chan bool)
	go func() {
		defer close(done)
		for _, l := range unfitTrees(r) {
			for _, p := range append(unfitParams(), params(2, 4, 8), params(1, 2, 2), params(16, 64, 256)) {
				top, objects := dag.Build(p, l)
				if (top == "") != (len(objects) == 0) || !dag.Fit(objects) {
					t.Errorf("Build(%v, %s) = %x, %s", p, short(l), top, brief(objects))
				}
			}
		}
		for _, l := range unfitObjects(r) {
			if dag.Fit(l) != isFit(l) || !dag.Same(l, slices.Clone(l)) {
				t.Errorf("%s is not told as what it is", brief(l))
			}
			for _, k := range around(nil) {
				dag.Get(l, k)
				dag.Add(l, object(k, k))
			}
		}
	}()
	select {
	case <-done:
	case <-time.After(60 * time.Second):
		t.Fatal("a call does not end")
	}
}

// TestNotBuilt: what a tree, or parameters, that are not fit come to: rather nothing than something else.
func TestNotBuilt(t *testing.T) {
	for _, p := range unfitParams() {
		if top, objects := dag.Build(p, seededTree(7)); top != "" || objects != nil {
			t.Errorf("Build with %v = %x, %s", p, top, brief(objects))
		}
	}
	for _, l := range [][]api.Item{
		{file("", "")}, {dir("")}, {file("a//b", "")}, {file("a/b", "x")}, {file("a", ""), file("a/b", "")}, {dir("a"), dir("b"), file("a/b", "")}, {dir("a"), dir("a")}, {file("a", ""), dir("a")}, {file("b", ""), file("a", "")},
		{file(text(32), "")}, {{Path: "a", Dir: true, Exec: true}}, append(emptyFiles(), dir("z")), {file("a", text(mostFile+1))}, {dir("a"), dir("a/b"), file("a/b/c", text(mostFile+1)), file("d", "")},
	} {
		if top, objects := dag.Build(params(16, 64, 256), l); top != "" || objects != nil {
			t.Errorf("Build of %s = %x, %s", short(l), top, brief(objects))
		}
	}
	// 1025 pieces.
	for _, l := range [][]api.Item{{file("a", strings.Repeat("ab", 1025))}, {dir("a"), file("a/b", strings.Repeat("ab", 1025)), file("c", "")}} {
		if pieces := len(cdc.Pieces(params(2, 2, 2), l[len(l)/2].Data)); pieces != mostParts+1 {
			t.Fatalf("there are %d pieces", pieces)
		}
		if top, objects := dag.Build(params(2, 2, 2), l); top != "" || objects != nil {
			t.Errorf("Build of %s = %x, %s", short(l), top, brief(objects))
		}
	}
}
