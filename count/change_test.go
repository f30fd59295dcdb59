package count_test

import (
	"math"
	"math/rand/v2"
	"slices"
	"strings"
	"testing"

	"silo/api"
	"silo/count"
)

// sixKeys are objects told by hand: a top that names two directories, one of which names a file twice, which names a piece.
func sixKeys() (h heap, top, left, right, file, piece string) {
	h = heap{}
	piece = h.piece("x")
	file = h.file(piece, piece)
	left = h.dir(file, file)
	right = h.dir(file, left)
	top = h.dir(left, right)
	return h, top, left, right, file, piece
}

// TestPlus: P14.2, roots more, told by hand.
func TestPlus(t *testing.T) {
	h, top, left, right, file, piece := sixKeys()
	type counts = map[string]int
	for _, c := range []struct {
		name string
		was  counts
		root string
		want counts
	}{
		{"a piece of none", nil, piece, counts{piece: 1}},
		{"a piece once more", counts{piece: 1}, piece, counts{piece: 2}},
		{"a file of none", nil, file, counts{file: 1, piece: 1}},
		{"a file of its piece", counts{piece: 1}, file, counts{file: 1, piece: 2}},
		{"a piece of its file", counts{file: 1, piece: 1}, piece, counts{file: 1, piece: 2}},
		{"a file once more", counts{file: 1, piece: 1}, file, counts{file: 2, piece: 1}},
		{"a directory of none", nil, left, counts{left: 1, file: 1, piece: 1}},
		{"a directory once more", counts{left: 1, file: 1, piece: 1}, left, counts{left: 2, file: 1, piece: 1}},
		{"a directory of its file", counts{file: 1, piece: 1}, left, counts{left: 1, file: 2, piece: 1}},
		{"a file of its directory", counts{left: 1, file: 1, piece: 1}, file, counts{left: 1, file: 2, piece: 1}},
		{"a directory of one in it", counts{left: 1, file: 1, piece: 1}, right, counts{right: 1, left: 2, file: 2, piece: 1}},
		{"all of none", nil, top, counts{top: 1, left: 2, right: 1, file: 2, piece: 1}},
		{"all of one directory", counts{left: 1, file: 1, piece: 1}, top, counts{top: 1, left: 3, right: 1, file: 2, piece: 1}},
		{"all of the other one", counts{right: 1, left: 1, file: 2, piece: 1}, top, counts{top: 1, left: 2, right: 2, file: 2, piece: 1}},
		{"all of the piece", counts{piece: 4}, top, counts{top: 1, left: 2, right: 1, file: 2, piece: 5}},
		{"a piece of all", counts{top: 1, left: 2, right: 1, file: 2, piece: 1}, piece, counts{top: 1, left: 2, right: 1, file: 2, piece: 2}},
		{"a directory of all", counts{top: 1, left: 2, right: 1, file: 2, piece: 1}, right, counts{top: 1, left: 2, right: 2, file: 2, piece: 1}},
	} {
		checkPlus(t, c.name, told(c.was), h.list(), c.root, told(c.want), api.OK)
		checkMinus(t, "back from "+c.name, told(c.want), h.list(), c.root, told(c.was), api.OK)
	}
}

// TestPlusNone: P14.2, 0.3, what is no key, and what is not there, or no node, from the root on down: the counts are as they were.
func TestPlusNone(t *testing.T) {
	h, top, left, right, file, piece := sixKeys()
	l := h.list()
	full, _ := count.Of(l, []string{top, top, file})
	for _, c := range [][]api.Count{nil, {}, {asked(piece, 1)}, {asked(file, 1), asked(piece, 3)}, full} {
		for _, root := range append(strange(), key(1), key(255), sum("other"), top[:31]+"\x00", top+"\x00") {
			checkPlus(t, "nothing there", c, l, root, c, api.ErrNone)
		}
		for _, bad := range []string{top, left, right, file, piece} {
			for _, root := range []string{top, left, right, file, piece} {
				_, fine := h.without(bad).counts([]string{root})
				for _, raw := range noNodes() {
					if !fine {
						checkPlus(t, "no node", c, h.with(bad, raw).list(), root, c, api.ErrNone)
					}
				}
				if !fine {
					checkPlus(t, "one gone", c, h.without(bad).list(), root, c, api.ErrNone)
				}
			}
		}
		checkPlus(t, "no objects", c, nil, top, c, api.ErrNone)
	}
}

// TestPlusElse: P14.2, what is not reached from the root is not asked for: it may be gone, or no node, or be counted or not.
func TestPlusElse(t *testing.T) {
	h, top, left, right, file, piece := sixKeys()
	other := h.piece("other")
	c, _ := h.counts([]string{top})
	for _, root := range []string{other, piece, file, left, right} {
		want, _ := h.counts([]string{top, root})
		for _, bad := range []string{top, left, right, file, piece, other} {
			if _, fine := h.without(bad).counts([]string{root}); !fine {
				continue
			}
			checkPlus(t, "one gone beside", c, h.without(bad).list(), root, want, api.OK)
			for _, raw := range append(noNodes(), pieceBytes("y")) {
				checkPlus(t, "no node beside", c, h.with(bad, raw).list(), root, want, api.OK)
			}
		}
	}
	was := map[string]int{key(0): 3, key(255): 1}
	want := map[string]int{key(0): 3, key(255): 1, file: 1, piece: 1}
	checkPlus(t, "nothing of what was counted is there", told(was), h.list(), file, told(want), api.OK)
}

// TestMinus: P14.3, roots less, told by hand: a key that just others name is counted less, too.
func TestMinus(t *testing.T) {
	h, top, left, right, file, piece := sixKeys()
	all := map[string]int{top: 1, left: 2, right: 1, file: 2, piece: 1}
	type counts = map[string]int
	for _, c := range []struct {
		name string
		was  counts
		root string
		want counts
	}{
		{"all", all, top, nil},
		{"all of two", counts{top: 2, left: 2, right: 1, file: 2, piece: 1}, top, all},
		{"all, a directory being kept", counts{top: 1, left: 2, right: 2, file: 2, piece: 1}, top, counts{right: 1, left: 1, file: 2, piece: 1}},
		{"all, a piece being kept", counts{top: 1, left: 2, right: 1, file: 2, piece: 3}, top, counts{piece: 2}},
		{"what is named twice", all, left, counts{top: 1, left: 1, right: 1, file: 2, piece: 1}},
		{"what is named once", all, right, counts{top: 1, left: 1, file: 1, piece: 1}},
		{"the piece", all, piece, counts{top: 1, left: 2, right: 1, file: 2}},
		{"the piece, counted more", counts{top: 1, left: 2, right: 1, file: 2, piece: 2}, piece, all},
		{"what names what is not counted", counts{left: 1, piece: 1}, left, counts{piece: 1}},
		{"what names nothing that is counted", counts{top: 1, file: 1, piece: 1}, top, counts{file: 1, piece: 1}},
		{"what is gone to 0 is not gone below it", counts{top: 1, left: 1, right: 1, file: 1, piece: 1}, top, nil},
		{"great numbers", counts{file: math.MaxInt, piece: math.MaxInt}, file, counts{file: math.MaxInt - 1, piece: math.MaxInt}},
		{"great numbers below", counts{file: 1, piece: math.MaxInt}, file, counts{piece: math.MaxInt - 1}},
	} {
		checkMinus(t, c.name, told(c.was), h.list(), c.root, told(c.want), api.OK)
	}
}

// TestMinusNone: P14.3, 0.3, what is not counted, whether it is there or not: the counts are as they were.
func TestMinusNone(t *testing.T) {
	h, top, left, right, file, piece := sixKeys()
	for _, c := range [][]api.Count{nil, {}, {asked(key(1), 1)}, {asked(key(1), 1), asked(key(2), 5)}} {
		for _, root := range append(strange(), top, left, right, file, piece, key(0), key(3), key(255), sum("other"), key(1)+"x") {
			checkMinus(t, "not counted", c, h.list(), root, c, api.ErrNone)
			checkMinus(t, "not counted, no objects", c, nil, root, c, api.ErrNone)
		}
	}
}

// TestMinusGone: P14.3, of what is gone, or no node, nothing is named; the rest is as it would be.
func TestMinusGone(t *testing.T) {
	h, top, left, right, file, piece := sixKeys()
	type counts = map[string]int
	all := counts{top: 1, left: 2, right: 1, file: 2, piece: 1}
	for _, c := range []struct {
		name string
		bad  string
		want counts
	}{
		{"the topmost", top, counts{left: 2, right: 1, file: 2, piece: 1}},
		{"the left one", left, counts{file: 1, piece: 1}},
		{"the right one", right, counts{left: 1, file: 2, piece: 1}},
		{"the file", file, counts{piece: 1}},
		{"the piece", piece, nil},
	} {
		checkMinus(t, c.name, told(all), h.without(c.bad).list(), top, told(c.want), api.OK)
		almost := []string{fileBytes(piece, file) + "\x00", fileBytes(piece, file)[:66], "\x02\x01" + piece + "\x00", dirBytes(left, file, piece) + "\x00"}
		for _, raw := range append(noNodes(), almost...) {
			checkMinus(t, c.name, told(all), h.with(c.bad, raw).list(), top, told(c.want), api.OK)
		}
	}
	checkMinus(t, "no objects", told(all), nil, top, told(counts{left: 2, right: 1, file: 2, piece: 1}), api.OK)
	checkMinus(t, "no objects", []api.Count{asked(key(1), 1)}, nil, key(1), nil, api.OK)
	checkMinus(t, "no objects", []api.Count{asked(key(1), 2)}, nil, key(1), []api.Count{asked(key(1), 1)}, api.OK)
}

// TestMinusRing: P14.3, as its words are: what names itself, or one another in a ring, is not at 0, unless the root was all that held it.
func TestMinusRing(t *testing.T) {
	own := heap{key(1): dirBytes(key(1), key(2)), key(2): pieceBytes("x")}
	pair := heap{key(1): dirBytes(key(2)), key(2): dirBytes(key(1))}
	held := []api.Count{asked(key(1), 2), asked(key(2), 1)}
	less := []api.Count{asked(key(1), 1), asked(key(2), 1)}
	for name, h := range map[string]heap{"itself": own, "a pair": pair} {
		inTime(t, func() {
			checkOf(t, name, h.list(), []string{key(1)}, held, true)
			checkPlus(t, name, nil, h.list(), key(1), held, api.OK)
			checkMinus(t, name, held, h.list(), key(1), less, api.OK)
			checkMinus(t, name, less, h.list(), key(1), nil, api.OK)
		})
	}
}

// TestChangesAny: P14.2, P14.3, of counts of some roots, objects of all kinds, with and without rings, and what is wrong, against the chapter's words.
func TestChangesAny(t *testing.T) {
	r := rand.New(rand.NewPCG(14, 3))
	more, none, less := 0, 0, 0
	for round := range 1500 {
		h, all := anyHeap(r, 1+r.IntN(40))
		if round%2 == 1 {
			h, all = ringHeap(r, 1+r.IntN(40), round%3*30)
		}
		roots := some(r, all, r.IntN(12))
		c, is := h.counts(roots)
		if !is {
			roots, c = nil, nil
		}
		l := h.list()
		for _, k := range some(r, append(all, key(254), "x"), 6) {
			want, fine := h.counts(append(slices.Clone(roots), k))
			switch {
			case fine && len(k) == keySize:
				checkPlus(t, "any", c, l, k, want, api.OK)
				more++
			default:
				checkPlus(t, "any", c, l, k, c, api.ErrNone)
				none++
			}
			want, err := h.minus(c, k)
			checkMinus(t, "any", c, l, k, want, err)
			if err == api.OK {
				less++
			}
		}
	}
	if more < 2000 || none < 1000 || less < 2000 {
		t.Errorf("%d roots more, %d not, %d less", more, none, less)
	}
}

// TestMinusAny: P14.3, of counts that no roots have, and objects that are not there, or no node's.
func TestMinusAny(t *testing.T) {
	r := rand.New(rand.NewPCG(14, 4))
	less := 0
	for range 1500 {
		h, all := ringHeap(r, 1+r.IntN(30), 8)
		n := map[string]int{}
		for _, k := range some(r, append(all, key(254), key(0)), r.IntN(50)) {
			n[k] = 1 + r.IntN(3)
		}
		c := told(n)
		for _, k := range some(r, append(all, key(254)), 6) {
			want, err := h.minus(c, k)
			checkMinus(t, "any counts", c, h.list(), k, want, err)
			if err == api.OK {
				less++
			}
		}
	}
	if less < 2000 {
		t.Errorf("%d roots less", less)
	}
}

// TestUnfit: 0.1, 0.5, arguments that are not fit: each call ends, and changes nothing.
func TestUnfit(t *testing.T) {
	h, top, left, right, file, piece := sixKeys()
	fit := h.list()
	turned := slices.Clone(fit)
	slices.Reverse(turned)
	lists := [][]api.Object{nil, fit, turned, slices.Concat(fit, fit), {object("", ""), object("x", "\x03\x00")}, {object(strings.Repeat("k", 65536), strings.Repeat("\x03", 1<<20))}}
	full, _ := h.counts([]string{top, left})
	odd := [][]api.Count{nil, full, slices.Concat(full, full), {asked(top, 0)}, {asked(top, -1)}, {asked(top, math.MinInt), asked(left, math.MaxInt)}, {asked(top, 1), asked(top, 0), asked(top, 2)}, {asked(top, 0), asked(top, 1)}, {asked("", 1), asked("x", 2), asked(strings.Repeat("k", 65536), 3)}, {asked(top, 1), asked(left, -1), asked(right, 0), asked(file, math.MinInt), asked(piece, math.MaxInt)}}
	for _, l := range lists {
		for _, roots := range [][]string{nil, strange(), {top, left, right, file, piece}, slices.Repeat([]string{top, "x"}, 2000)} {
			inTime(t, func() { count.Of(slices.Clone(l), slices.Clone(roots)) })
		}
		for _, c := range odd {
			for _, root := range append(strange(), top, left, right, file, piece, key(1), strings.Repeat("k", 65536)) {
				for _, do := range []change{count.Plus, count.Minus} {
					unfit(t, do, c, l, root)
				}
			}
		}
	}
}

// unfit holds against each other what a change is given ahead of it and behind it.
func unfit(t *testing.T, do change, c []api.Count, l []api.Object, root string) {
	t.Helper()
	counts, objects := roomy(c), slices.Clone(l)
	inTime(t, func() {
		got, err := do(counts, objects, root)
		if err != api.OK && (err != api.ErrNone || !slices.Equal(got, c)) {
			t.Errorf("%s behind %v", short(got), err)
		}
		spoil(got)
	})
	if !slices.Equal(counts, c) || !slices.Equal(objects, l) {
		t.Fatalf("%s are changed to %s", short(c), short(counts))
	}
}
