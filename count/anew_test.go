package count_test

import (
	"fmt"
	"math/rand/v2"
	"slices"
	"strings"
	"testing"

	"silo/api"
	"silo/count"
	"silo/dag"
	"silo/tree"
)

// plus is counts behind roots more.
func plus(t *testing.T, c []api.Count, l []api.Object, roots ...string) []api.Count {
	t.Helper()
	for _, k := range roots {
		was := c
		var err api.Errno
		if c, err = count.Plus(was, l, k); err != api.OK {
			t.Fatalf("Plus of %s and %.4x = %v", short(was), k, err)
		}
	}
	return c
}

// minus is counts behind roots less.
func minus(t *testing.T, c []api.Count, l []api.Object, roots ...string) []api.Count {
	t.Helper()
	for _, k := range roots {
		was := c
		var err api.Errno
		if c, err = count.Minus(was, l, k); err != api.OK {
			t.Fatalf("Minus of %s and %.4x = %v", short(was), k, err)
		}
	}
	return c
}

// orders are all orders of a list.
func orders(l []string) [][]string {
	if len(l) == 0 {
		return [][]string{nil}
	}
	var out [][]string
	for i := range l {
		for _, rest := range orders(slices.Concat(l[:i], l[i+1:])) {
			out = append(out, append([]string{l[i]}, rest...))
		}
	}
	return out
}

// TestOrders: P14.4, roots more in any order, and then less in any order, each time as anew.
func TestOrders(t *testing.T) {
	h, top, left, right, file, piece := sixKeys()
	l := h.list()
	for _, roots := range [][]string{{top, left, right, file, piece}, {top, top, left, left}, {right, file, right, piece}, {left, right}, {piece, piece, piece}} {
		want, _ := count.Of(l, roots)
		for _, order := range orders(roots) {
			if got := plus(t, nil, l, order...); !count.Same(got, want) {
				t.Fatalf("Plus in one order comes to %s, not %s", short(got), short(want))
			}
			c := want
			for i, k := range order {
				c = minus(t, c, l, k)
				if left, _ := count.Of(l, order[i+1:]); !count.Same(c, left) {
					t.Fatalf("Minus in one order comes to %s, not %s", short(c), short(left))
				}
			}
		}
	}
}

// TestThereAndBack: P14.4, Plus and then Minus of each key, of counts of any roots, leaves them as they were.
func TestThereAndBack(t *testing.T) {
	r := rand.New(rand.NewPCG(14, 5))
	for range 300 {
		h, all := anyHeap(r, 1+r.IntN(40))
		l := h.list()
		was, _ := count.Of(l, some(r, all, r.IntN(8)))
		for _, k := range all {
			if got := minus(t, plus(t, was, l, k), l, k); !count.Same(got, was) {
				t.Fatalf("there and back comes to %s, not %s", short(got), short(was))
			}
			if got := minus(t, plus(t, was, l, k, k, k), l, k, k, k); !count.Same(got, was) {
				t.Fatalf("there and back three times comes to %s, not %s", short(got), short(was))
			}
		}
	}
}

// TestLongWay: P14.4, roots come and go, each time as anew, more and more objects being there.
func TestLongWay(t *testing.T) {
	r := rand.New(rand.NewPCG(14, 6))
	for range 40 {
		h, all := anyHeap(r, 40)
		l := h.list()
		var roots []string
		var c []api.Count
		for step := range 150 {
			if step%30 == 0 {
				all = append(all, h.dir(some(r, all, r.IntN(6))...), h.piece(fmt.Sprint("step", step)))
				l = h.list()
			}
			if r.IntN(100) < 45 && len(roots) > 0 {
				at := r.IntN(len(roots))
				c = minus(t, c, l, roots[at])
				roots = slices.Delete(roots, at, at+1)
			} else {
				k := all[r.IntN(len(all))]
				c = plus(t, c, l, k)
				roots = append(roots, k)
			}
			if want, _ := count.Of(l, roots); !count.Same(c, want) {
				t.Fatalf("behind %d steps there are %s, not %s", step+1, short(c), short(want))
			}
		}
		if c = minus(t, c, l, roots...); len(c) != 0 {
			t.Fatalf("at the end there are %s", short(c))
		}
	}
}

// anyTree is a tree that is fit, of which files and directories are alike now and then.
func anyTree(r *rand.Rand) []api.Item {
	var l []api.Item
	dirs := []string{""}
	for range r.IntN(61) {
		x := api.Item{Path: dirs[r.IntN(len(dirs))] + string('a'+rune(r.IntN(6))), Dir: r.IntN(2) == 0}
		if !x.Dir {
			x.Exec, x.Data = r.IntN(2) == 0, strings.Repeat(fmt.Sprint(r.IntN(4)), r.IntN(300))+strings.Repeat("b", r.IntN(100))
		}
		more, err := tree.Put(l, x)
		if err == api.OK && x.Dir {
			dirs = append(dirs, x.Path+"/")
		}
		l = more
	}
	return l
}

// TestTrees: P14.4, trees that come and go among others, as they are built: what is left is what the others need.
func TestTrees(t *testing.T) {
	r := rand.New(rand.NewPCG(14, 7))
	p := api.Params{Min: 16, Avg: 64, Max: 256}
	shared := 0
	for range 60 {
		var all []api.Object
		var roots []string
		h := heap{}
		for range 6 {
			top, l := dag.Build(p, anyTree(r))
			roots = append(roots, top)
			for _, x := range l {
				all = dag.Add(all, x)
				h[x.Key] = x.Raw
			}
		}
		c := plus(t, nil, all, roots...)
		if len(c) != len(all) {
			t.Fatalf("%d of %d objects are counted", len(c), len(all))
		}
		for i, k := range roots {
			want, _ := h.counts(roots[i:])
			if !count.Same(c, want) {
				t.Fatalf("of %d trees there are %s, not %s", len(roots)-i, short(c), short(want))
			}
			for _, x := range c {
				shared += min(x.N-1, 1)
			}
			c = minus(t, c, all, k)
		}
		if len(c) != 0 {
			t.Fatalf("of no tree there are %s", short(c))
		}
	}
	if shared < 1000 {
		t.Errorf("%d keys are shared", shared)
	}
}

// TestChangesMost: P14.2 to P14.4, 2^16 objects in one another, the last one's fall bringing all down, and many that name many.
func TestChangesMost(t *testing.T) {
	h := heap{}
	for i := range mostObjects - 1 {
		h[numbered(i)] = dirBytes(numbered(i+1), numbered(min(i+7, mostObjects-1)))
	}
	h[numbered(mostObjects-1)] = fileBytes()
	l := h.list()
	want, _ := h.counts([]string{numbered(0)})
	inTime(t, func() {
		checkPlus(t, "most", nil, l, numbered(0), want, api.OK)
		checkMinus(t, "most", want, l, numbered(0), nil, api.OK)
		more := plus(t, want, l, numbered(60000))
		rest, _ := h.counts([]string{numbered(60000)})
		checkMinus(t, "most", more, l, numbered(0), rest, api.OK)
	})
	dense := heap{}
	var files, pieces []string
	for at := range mostParts {
		pieces = append(pieces, dense.piece(fmt.Sprint(at)))
	}
	for i := range 50 {
		files = append(files, dense.file(append(slices.Clone(pieces[i:]), pieces[:i]...)...))
	}
	top := dense.dir(files...)
	want, _ = dense.counts([]string{top})
	inTime(t, func() {
		checkPlus(t, "dense", nil, dense.list(), top, want, api.OK)
		checkMinus(t, "dense", want, dense.list(), top, nil, api.OK)
	})
}
