package count_test

import (
	"encoding/hex"
	"strings"
	"testing"

	"silo/api"
	"silo/count"
	"silo/dag"
)

// unhex is bytes that are written down.
func unhex(t *testing.T, s string) string {
	t.Helper()
	b, err := hex.DecodeString(s)
	if err != nil {
		t.Fatal(err)
	}
	return string(b)
}

// listed is objects that are written down, a line each: the key, the bytes.
func listed(t *testing.T, s string) []api.Object {
	t.Helper()
	var l []api.Object
	for line := range strings.SplitSeq(strings.TrimSpace(s), "\n") {
		k, raw, _ := strings.Cut(line, " ")
		l = append(l, object(unhex(t, k), unhex(t, raw)))
	}
	return l
}

// ten are the objects, worked out outside the program, of a tree of five items.
const ten = `
5186fcc8ee19bcb97b9b8edb4217bd8c8bbc8fb2ec40368f60286b4e3718e385 01666768696a
5e25a2b009b423f2222f60344a9045731decda15164b77d409d288046b4bddb7 016162636465
67fdd91753d2f15275b89c84640fca6163d13501f084c32ff22bc02cc0754d8b 0304016103faa7d0d590f27de87dbc36523e627ec3d8c00c9e7e0ca8d67fb996d427d6404703612d620299be5efb88ca2013bd8e4eb035fd42d5245468fe9afa70d8ba9c1c419a48c4e80163039b4fb24edd6d1d8830e272398263cdbf026b97392cc35387b991dc0248a628f90164026c2e6bc380ee0827575f110c59e862323d9b6419dff20545fd3d9489ccdd9d33
6c2e6bc380ee0827575f110c59e862323d9b6419dff20545fd3d9489ccdd9d33 02025e25a2b009b423f2222f60344a9045731decda15164b77d409d288046b4bddb7055e25a2b009b423f2222f60344a9045731decda15164b77d409d288046b4bddb705
99be5efb88ca2013bd8e4eb035fd42d5245468fe9afa70d8ba9c1c419a48c4e8 0200
9b4fb24edd6d1d8830e272398263cdbf026b97392cc35387b991dc0248a628f9 0300
a5306e8b0f43c905e4d62315a00fd2281178d12d1ac325a4fbdeb02930aa006b 02055e25a2b009b423f2222f60344a9045731decda15164b77d409d288046b4bddb7055186fcc8ee19bcb97b9b8edb4217bd8c8bbc8fb2ec40368f60286b4e3718e38505f159a5849d07559cc47ffe247d3a0d86ee4f4cf5127aeef4499e2d5ba6ed620a03d0f014e6c7fde5705adbf57bdb8f8723301fcfb7e581d8eba875e51456ec4f5703b6ff45f1f8669ba78bed63598c2dcf33c276bcdb6df869e354faf5af2375f50001
b6ff45f1f8669ba78bed63598c2dcf33c276bcdb6df869e354faf5af2375f500 0170
d0f014e6c7fde5705adbf57bdb8f8723301fcfb7e581d8eba875e51456ec4f57 016d6e6f
f159a5849d07559cc47ffe247d3a0d86ee4f4cf5127aeef4499e2d5ba6ed620a 01206b6c
faa7d0d590f27de87dbc36523e627ec3d8c00c9e7e0ca8d67fb996d427d64047 0301017a06a5306e8b0f43c905e4d62315a00fd2281178d12d1ac325a4fbdeb02930aa006b
`

// begins is the key of an object, by its first digits.
func begins(t *testing.T, l []api.Object, digits string) string {
	t.Helper()
	for _, x := range l {
		if strings.HasPrefix(hex.EncodeToString([]byte(x.Key)), digits) {
			return x.Key
		}
	}
	t.Fatalf("no key begins with %s", digits)
	return ""
}

// TestOfGiven: P14.1 to P14.3, counts of roots, worked out outside the program.
func TestOfGiven(t *testing.T) {
	l := listed(t, ten)
	for _, c := range []struct {
		roots string
		ns    []int // by the objects' order; 0: not counted
	}{
		{"", []int{0, 0, 0, 0, 0, 0, 0, 0, 0, 0, 0}},
		{"67fd", []int{1, 2, 1, 1, 1, 1, 1, 1, 1, 1, 1}},
		{"faa7", []int{1, 1, 0, 0, 0, 0, 1, 1, 1, 1, 1}},
		{"9b4f", []int{0, 0, 0, 0, 0, 1, 0, 0, 0, 0, 0}},
		{"6c2e", []int{0, 1, 0, 1, 0, 0, 0, 0, 0, 0, 0}},
		{"67fd 67fd", []int{1, 2, 2, 1, 1, 1, 1, 1, 1, 1, 1}},
		{"67fd 6c2e", []int{1, 2, 1, 2, 1, 1, 1, 1, 1, 1, 1}},
		{"a530 6c2e 6c2e 5e25", []int{1, 3, 0, 2, 0, 0, 1, 1, 1, 1, 0}},
	} {
		var want, up, down []api.Count
		for i, n := range c.ns {
			if n > 0 {
				want = append(want, asked(l[i].Key, n))
			}
		}
		var roots []string
		for _, digits := range strings.Fields(c.roots) {
			roots = append(roots, begins(t, l, digits))
		}
		checkOf(t, c.roots, l, roots, want, true)
		down = want
		for _, k := range roots {
			var err api.Errno
			if up, err = count.Plus(up, l, k); err != api.OK {
				t.Errorf("%s: Plus = %v", c.roots, err)
			}
			if down, err = count.Minus(down, l, k); err != api.OK {
				t.Errorf("%s: Minus = %v", c.roots, err)
			}
		}
		if !count.Same(up, want) || len(down) != 0 {
			t.Errorf("%s: Plus comes to %s, Minus to %s, want %s and none", c.roots, short(up), short(down), short(want))
		}
	}
}

// TestExample: the chapter's example, of trees of some kinds.
func TestExample(t *testing.T) {
	dir := func(path string) api.Item { return api.Item{Path: path, Dir: true} }
	file := func(path, data string) api.Item { return api.Item{Path: path, Data: data} }
	p := api.Params{Min: 2, Avg: 4, Max: 8}
	for _, items := range [][]api.Item{
		nil,
		{dir("a")},
		{file("a", "")},
		{file("a", "abcdefghij klmnop"), file("b", "abcdefghij klmnop"), dir("c"), file("c/a", "abcdefghij")},
		{dir("a"), dir("a/a"), dir("a/a/a"), dir("b"), dir("b/a"), dir("b/a/a")},
		{file("a", strings.Repeat("abcde", 300)), file("b", strings.Repeat("abcde", 301))},
	} {
		top, l := dag.Build(p, items)
		c, all := count.Of(l, []string{top})
		if !all || count.N(c, top) != 1 || len(c) != len(l) {
			t.Errorf("of %d objects there are %s, %v", len(l), short(c), all)
		}
		checkMinus(t, "example", c, l, top, nil, api.OK)
		checkPlus(t, "example", nil, l, top, c, api.OK)
	}
}

// TestSeeded: H3, trees of which the document tells the topmost key, or how many objects they have: so many are counted.
func TestSeeded(t *testing.T) {
	top, l := dag.Build(api.Params{Min: 16, Avg: 64, Max: 256}, []api.Item{{Path: "d", Dir: true}, {Path: "d/f", Data: "hello"}})
	if c, all := count.Of(l, []string{top}); !all || len(c) != 4 || hex.EncodeToString([]byte(top))[:16] != "570123c3e0e37d6a" {
		t.Errorf("the tree of example 2 has %s, %v", short(c), all)
	}
	top, l = dag.Build(api.Params{Min: 16, Avg: 64, Max: 256}, []api.Item{{Path: "a", Data: "x"}})
	checkOf(t, "example 1", l, []string{top}, []api.Count{asked(l[0].Key, 1), asked(l[1].Key, 1), asked(l[2].Key, 1)}, true)
}
