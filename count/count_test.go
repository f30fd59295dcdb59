package count_test

import (
	"math"
	"math/rand/v2"
	"slices"
	"strings"
	"testing"

	"silo/api"
	"silo/count"
)

// TestOf: P14.1, counts told by hand: how often a key is among the roots, and how many objects name it, however often each does.
func TestOf(t *testing.T) {
	h := heap{}
	x, y := h.piece("x"), h.piece("y")
	file := h.file(x, y, x)
	twice := h.file(x, x, x)
	empty := h.dir()
	dir := h.dir(file, file, empty)
	above := h.dir(dir, twice, empty)
	top := h.dir(above, file)
	for _, c := range []struct {
		name  string
		roots []string
		want  map[string]int
	}{
		{"nothing", nil, nil},
		{"a piece", []string{x}, map[string]int{x: 1}},
		{"a piece twice", []string{x, x}, map[string]int{x: 2}},
		{"two pieces", []string{y, x}, map[string]int{x: 1, y: 1}},
		{"an empty directory", []string{empty}, map[string]int{empty: 1}},
		{"a file that names a piece twice", []string{file}, map[string]int{file: 1, x: 1, y: 1}},
		{"a file that names just one piece", []string{twice}, map[string]int{twice: 1, x: 1}},
		{"a file twice", []string{file, file}, map[string]int{file: 2, x: 1, y: 1}},
		{"a file three times, and others between", []string{file, x, file, y, file}, map[string]int{file: 3, x: 2, y: 2}},
		{"two files that name one piece", []string{file, twice}, map[string]int{file: 1, twice: 1, x: 2, y: 1}},
		{"a file ahead of its piece", []string{file, x}, map[string]int{file: 1, x: 2, y: 1}},
		{"a piece ahead of its file", []string{x, file}, map[string]int{file: 1, x: 2, y: 1}},
		{"a directory that names a file twice", []string{dir}, map[string]int{dir: 1, file: 1, empty: 1, x: 1, y: 1}},
		{"directories in one another", []string{above}, map[string]int{above: 1, dir: 1, twice: 1, empty: 2, file: 1, x: 2, y: 1}},
		{"what is named at two depths", []string{top}, map[string]int{top: 1, above: 1, dir: 1, twice: 1, empty: 2, file: 2, x: 2, y: 1}},
		{"a directory and what is in it", []string{top, dir, above, dir}, map[string]int{top: 1, above: 2, dir: 3, twice: 1, empty: 2, file: 2, x: 2, y: 1}},
	} {
		checkOf(t, c.name, h.list(), c.roots, told(c.want), true)
		turned := slices.Clone(c.roots)
		slices.Reverse(turned)
		checkOf(t, c.name+", turned round", h.list(), turned, told(c.want), true)
		checkOf(t, c.name+", and no keys", h.list(), slices.Concat(strange(), c.roots, strange()), told(c.want), true)
	}
	checkOf(t, "no objects", nil, nil, nil, true)
	checkOf(t, "no objects, no keys", nil, strange(), nil, true)
}

// TestOfWrong: P14.1, 0.3, none and false, wherever what is wrong is reached from.
func TestOfWrong(t *testing.T) {
	for _, raw := range append(noNodes(), "lost") {
		h := heap{}
		x := h.piece("x")
		bad := key(250)
		h[bad] = raw
		if raw == "lost" {
			delete(h, bad)
		}
		file := h.file(x, bad)
		dir, beside := h.dir(file), h.dir(x)
		for _, roots := range [][]string{{bad}, {bad, bad}, {file}, {dir}, {x, bad}, {bad, x}, {beside, dir}, {dir, beside}, {x, beside, file, x}, {"", "x", bad}} {
			checkOf(t, "wrong", h.list(), roots, nil, false)
			checkOf(t, "wrong", h.without(x).list(), roots, nil, false)
		}
		checkOf(t, "what is wrong is not reached", h.list(), []string{beside}, told(map[string]int{beside: 1, x: 1}), true)
		checkOf(t, "no root", h.list(), nil, nil, true)
		checkOf(t, "no key", h.list(), []string{bad[1:], bad + bad}, nil, true)
	}
	checkOf(t, "no objects", nil, []string{key(1)}, nil, false)
	checkOf(t, "no objects", []api.Object{}, []string{"", key(1)}, nil, false)
}

// TestOfOtherSum: P14.1, as fetch.Reach: a key need not be its bytes' sum.
func TestOfOtherSum(t *testing.T) {
	h := heap{key(1): fileBytes(key(2), key(3), key(2)), key(2): pieceBytes("x"), key(3): dirBytes(key(2))}
	checkOf(t, "other sums", h.list(), []string{key(1)}, []api.Count{asked(key(1), 1), asked(key(2), 2), asked(key(3), 1)}, true)
	checkOf(t, "other sums", h.list(), []string{key(3)}, []api.Count{asked(key(2), 1), asked(key(3), 1)}, true)
}

// TestOfAny: P14.1, objects of all kinds against the chapter's words, with and without rings, and what is wrong.
func TestOfAny(t *testing.T) {
	r := rand.New(rand.NewPCG(14, 1))
	whole, broken := 0, 0
	for round := range 600 {
		h, all := anyHeap(r, 1+r.IntN(60))
		if round%2 == 1 {
			h, all = ringHeap(r, 1+r.IntN(60), round%3*20)
		}
		l := h.list()
		for range 10 {
			roots := some(r, all, r.IntN(1+r.IntN(20)))
			want, is := h.counts(roots)
			checkOf(t, "any", l, roots, want, is)
			if is {
				whole++
			} else {
				broken++
			}
		}
	}
	if whole < 3000 || broken < 500 {
		t.Errorf("%d times all was there, %d times not", whole, broken)
	}
}

// TestOfFit: P14.1, counts rise by key, none twice, each at least 1.
func TestOfFit(t *testing.T) {
	r := rand.New(rand.NewPCG(14, 2))
	for range 200 {
		h, all := anyHeap(r, 1+r.IntN(100))
		c, _ := count.Of(h.list(), some(r, all, r.IntN(30)))
		for i, x := range c {
			if x.N < 1 || len(x.Key) != keySize || i > 0 && c[i-1].Key >= x.Key {
				t.Fatalf("%s are no counts", short(c))
			}
		}
	}
}

// TestOfMost: P14.1, 1000 roots, and 2^16 objects: in one another, beside one another, many that name many.
func TestOfMost(t *testing.T) {
	chain, towers, wide := heap{}, heap{}, heap{}
	var roots []string
	for i := range mostObjects {
		next := (i + 1) % mostObjects
		towers[numbered(i)] = dirBytes(numbered(next), numbered((i+7)%mostObjects), numbered(next))
		chain[numbered(i)] = dirBytes(numbered(next))
		wide[numbered(i)] = pieceBytes("x")
	}
	chain[numbered(mostObjects-1)] = fileBytes()
	for i := range 63 {
		var kids []string
		for at := range mostParts {
			kids = append(kids, numbered(mostParts*(i+1)+at))
		}
		wide[numbered(i)] = fileBytes(kids...)
	}
	for i := range mostRoots {
		roots = append(roots, numbered((mostRoots-1-i)*65))
	}
	for name, h := range map[string]heap{"chain": chain, "towers": towers, "wide": wide} {
		l := h.list()
		for _, from := range [][]string{roots, {numbered(5)}, {numbered(0)}, slices.Repeat([]string{numbered(0)}, mostRoots)} {
			want, is := h.counts(from)
			inTime(t, func() { checkOf(t, name, l, from, want, is) })
			if !is {
				t.Errorf("%s: not all is there", name)
			}
		}
		gap := h.without(numbered(1024))
		want, is := gap.counts([]string{numbered(0)})
		inTime(t, func() { checkOf(t, name+" with a gap", gap.list(), []string{numbered(0)}, want, is) })
	}
}

// TestN: P14.1, of any counts: the first one's of a key, whatever it is.
func TestN(t *testing.T) {
	long := strings.Repeat("k", 65536)
	c := []api.Count{asked("b", 2), asked("a", 5), asked("b", 3), asked("", 7), asked("z", 0), asked("z", 4), asked("minus", -3), asked(long, 9), asked("most", math.MaxInt), asked("least", math.MinInt), asked("a", 6), asked("", 1), asked(key(3), 11)}
	for k, want := range map[string]int{"b": 2, "a": 5, "": 7, "z": 0, "minus": -3, long: 9, "most": math.MaxInt, "least": math.MinInt, key(3): 11, "c": 0, "aa": 0, "B": 0, key(2): 0, key(4): 0, key(3)[1:]: 0, long + "k": 0, long[1:]: 0} {
		if got := count.N(c, k); got != want {
			t.Errorf("N of %.8q = %d, want %d", k, got, want)
		}
		for i, x := range c {
			if got := count.N(c[i:i+1], k); got != 0 && x.Key != k || x.Key == k && got != x.N {
				t.Errorf("N of %.8q in %.8q*%d = %d", k, x.Key, x.N, got)
			}
		}
		if count.N(nil, k) != 0 || count.N([]api.Count{}, k) != 0 {
			t.Errorf("N of %.8q in none is not 0", k)
		}
	}
}

// TestNFit: P14.1, of counts that are fit: the first, the last, each between, and keys just beside them.
func TestNFit(t *testing.T) {
	for size := range 20 {
		var c []api.Count
		for i := range size {
			c = append(c, asked(key(byte(2*i+1)), i+1))
		}
		for b := range 50 {
			want := 0
			if b%2 == 1 && b/2 < size {
				want = b/2 + 1
			}
			if got := count.N(c, key(byte(b))); got != want {
				t.Errorf("N of key %d among %d = %d, want %d", b, size, got, want)
			}
		}
	}
}

// TestSame: P14.1, of any counts: one by one, keys and numbers, in order.
func TestSame(t *testing.T) {
	all := [][]api.Count{
		nil,
		{asked("", 0)},
		{asked("a", 1)}, {asked("a", 2)}, {asked("a", 0)}, {asked("a", -1)}, {asked("b", 1)}, {asked("a\x00", 1)}, {asked("A", 1)}, {asked(key(1), 1)}, {asked(key(1)[1:], 1)},
		{asked("a", math.MaxInt)}, {asked("a", math.MinInt)}, {asked("a", 1<<32+1)},
		{asked("a", 1), asked("b", 1)}, {asked("b", 1), asked("a", 1)}, {asked("a", 1), asked("a", 1)}, {asked("a", 1), asked("b", 2)}, {asked("a", 2), asked("b", 1)}, {asked("a", 1), asked("c", 1)}, {asked("a", 1), asked("", 0)},
		{asked("a", 1), asked("b", 1), asked("c", 1)}, {asked("a", 1), asked("c", 1), asked("b", 1)}, {asked("a", 1), asked("b", 1), asked("c", 2)},
	}
	for i, a := range all {
		for j, b := range all {
			if got := count.Same(a, b); got != (i == j) {
				t.Errorf("Same of %s and %s = %v", short(a), short(b), got)
			}
		}
		if !count.Same(a, slices.Clone(a)) || !count.Same(roomy(a), a) {
			t.Errorf("Same of %s and a copy is false", short(a))
		}
	}
	if !count.Same(nil, []api.Count{}) || !count.Same([]api.Count{}, nil) {
		t.Error("Same of none and none is false")
	}
}
