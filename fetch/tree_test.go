package fetch_test

import (
	"encoding/hex"
	"fmt"
	"maps"
	"math/rand/v2"
	"slices"
	"strings"
	"testing"

	"silo/api"
	"silo/cdc"
	"silo/dag"
	"silo/fetch"
	"silo/tree"
)

// TestExample: the chapter's examples.
func TestExample(t *testing.T) {
	nothing := "\x03\x00"
	l := []api.Object{object(sum(nothing), nothing)}
	if hex.EncodeToString([]byte(l[0].Key)) != "9b4fb24edd6d1d8830e272398263cdbf026b97392cc35387b991dc0248a628f9" {
		t.Fatalf("the key is %x", l[0].Key)
	}
	checkTree(t, "nothing", l, l[0].Key, nil, api.OK)
	for _, k := range []string{key(0), key(255), sum(""), sum("\x03"), l[0].Key[:31] + "\xf8", "", l[0].Key[:31], l[0].Key + "\x00"} {
		checkTree(t, "another key", l, k, nil, api.ErrNone)
		checkTree(t, "another key", nil, k, nil, api.ErrNone)
	}
}

// TestWorkedOut: P13.1 to P13.3, what is told of objects that were worked out outside the program.
func TestWorkedOut(t *testing.T) {
	l := listed(t, ten)
	top, a, az, ab, c, d := l[2].Key, l[10].Key, l[6].Key, l[4].Key, l[5].Key, l[3].Key
	checkTree(t, "all", l, top, []api.Item{dirItem("a"), program("a/z", "abcdefghij klmnop"), fileItem("a-b", ""), dirItem("c"), fileItem("d", "abcdeabcde")}, api.OK)
	checkTree(t, "a", l, a, []api.Item{program("z", "abcdefghij klmnop")}, api.OK)
	checkTree(t, "c", l, c, nil, api.OK)
	for k, want := range map[string]string{az: "abcdefghij klmnop", ab: "", d: "abcdeabcde"} {
		checkFile(t, "a file", l, k, want, api.OK)
		checkTree(t, "a file", l, k, nil, api.ErrKind)
	}
	checkFile(t, "a directory", l, a, "", api.ErrKind)
	checkFile(t, "a piece", l, l[0].Key, "", api.ErrKind)
	checkLoad(t, "a piece", l, l[7].Key, api.NdPiece, api.Node{Kind: api.NdPiece, Data: "p"}, api.OK)
	checkLoad(t, "d", l, d, api.NdFile, api.Node{Kind: api.NdFile, Parts: []api.Part{part(l[1].Key, 5), part(l[1].Key, 5)}}, api.OK)
	checkLoad(t, "a", l, a, api.NdDir, api.Node{Kind: api.NdDir, Entries: []api.Entry{{Name: "z", Kind: api.NdFile, Exec: true, Key: az}}}, api.OK)
	checkReach(t, "all", l, []string{top}, keysOf(l), true)
	checkReach(t, "d", l, []string{d}, []string{l[1].Key, d}, true)
	checkReach(t, "c and d", l, []string{d, c}, []string{l[1].Key, d, c}, true)
	checkReach(t, "a piece", l, []string{l[9].Key}, []string{l[9].Key}, true)
	if !fetch.Check(l) {
		t.Error("Check = false")
	}
}

// spoilt is a way in which an object is wrong: of bytes it makes objects, and the key that is then named.
type spoilt struct {
	name string
	err  api.Errno
	make func(h heap, raw string) string
}

// spoils are the ways in which the object of a node may be wrong, whatever kind is asked for.
func spoils() []spoilt {
	return []spoilt{
		{"not there", api.ErrNone, func(h heap, raw string) string { return sum(raw) }},
		{"another node's bytes", api.ErrKey, func(h heap, raw string) string { h[sum(raw)] = "\x01y"; return sum(raw) }},
		{"no node's bytes by another sum", api.ErrKey, func(h heap, raw string) string { h[sum(raw)] = "\x00"; return sum(raw) }},
		{"no bytes", api.ErrKey, func(h heap, raw string) string { h[sum(raw)] = ""; return sum(raw) }},
		{"one byte less", api.ErrKey, func(h heap, raw string) string { h[sum(raw)] = raw[:len(raw)-1]; return sum(raw) }},
		{"right bytes by another key", api.ErrKey, func(h heap, raw string) string { h[key(77)] = raw; return key(77) }},
		{"no node's bytes", api.ErrForm, func(h heap, raw string) string { return h.raw("\x00" + raw) }},
		{"nothing by its sum", api.ErrForm, func(h heap, raw string) string { return h.raw("") }},
	}
}

// kindSpoils are those, and that another kind is there.
func kindSpoils(kind int) []spoilt {
	l := spoils()
	for other, raw := range map[int]string{api.NdPiece: "\x01z", api.NdFile: "\x02\x00", api.NdDir: "\x03\x00"} {
		if other != kind {
			l = append(l, spoilt{fmt.Sprintf("kind %d", other), api.ErrKind, func(h heap, _ string) string { return h.raw(raw) }})
		}
	}
	return l
}

// TestTreeSpoilt: P13.1, each node on the way wrong in each way: the topmost, a directory, a file, a piece, each first, between and last; what is fine is told ahead and behind, but here nothing is.
func TestTreeSpoilt(t *testing.T) {
	for at := range 3 {
		pick := func(bad, good string, i int) string {
			if i == at {
				return bad
			}
			return good
		}
		for _, s := range kindSpoils(api.NdDir) {
			h := heap{}
			bad := s.make(h, "\x03\x01\x01x\x02"+h.whole("x"))
			good := h.dir(inFile("f", h.whole("a", "b")))
			checkTree(t, "topmost "+s.name, h.list(), bad, nil, s.err)
			top := h.dir(inDir("a", pick(bad, good, 0)), inDir("b", pick(bad, good, 1)), inDir("c", pick(bad, good, 2)))
			checkTree(t, "directory "+s.name, h.list(), top, nil, s.err)
			deep := h.dir(inDir("x", top))
			checkTree(t, "directory below "+s.name, h.list(), deep, nil, s.err)
		}
		for _, s := range kindSpoils(api.NdFile) {
			h := heap{}
			good := h.whole("a", "b")
			bad := s.make(h, "\x02\x01"+h.piece("x")+"\x01")
			top := h.dir(inFile("a", pick(bad, good, 0)), inFile("b", pick(bad, good, 1)), inFile("c", pick(bad, good, 2)))
			checkTree(t, "file "+s.name, h.list(), top, nil, s.err)
			checkFile(t, "file "+s.name, h.list(), bad, "", s.err)
			deep := h.dir(inDir("x", top))
			checkTree(t, "file below "+s.name, h.list(), deep, nil, s.err)
		}
		for _, s := range kindSpoils(api.NdPiece) {
			h := heap{}
			good := h.piece("x")
			bad := s.make(h, "\x01q")
			file := h.file(part(pick(bad, good, 0), 1), part(pick(bad, good, 1), 1), part(pick(bad, good, 2), 1))
			top := h.dir(inFile("a", file), inDir("b", h.dir()))
			checkTree(t, "piece "+s.name, h.list(), top, nil, s.err)
			checkFile(t, "piece "+s.name, h.list(), file, "", s.err)
			// Its node is ahead of its size.
			other := h.file(part(pick(bad, good, 0), 1), part(pick(bad, good, 1), 1), part(pick(bad, good, 2), 1), part(good, 2))
			checkFile(t, "piece ahead of a size "+s.name, h.list(), other, "", s.err)
			sized := h.file(part(bad, 7))
			checkFile(t, "piece of another size "+s.name, h.list(), sized, "", s.err)
		}
	}
}

// TestFirstWrong: P13.1, of what is wrong at two places the first one on the way is told: a directory's entries in order, what is below one right behind it, a file's pieces in order.
func TestFirstWrong(t *testing.T) {
	for _, s := range spoils() {
		for _, later := range spoils() {
			if s.err == later.err {
				continue
			}
			h := heap{}
			bad := s.make(h, "\x01s")
			worse := later.make(h, "\x01l")
			if bad == worse {
				continue
			}
			good := h.whole("x")
			for name, top := range map[string]string{
				"two files":                      h.dir(inFile("a", good), inFile("b", bad), inFile("c", good), inFile("d", worse)),
				"two directories":                h.dir(inDir("a", bad), inDir("b", worse)),
				"a file and a directory":         h.dir(inFile("a", bad), inDir("b", worse)),
				"a directory and a file":         h.dir(inDir("a", bad), inFile("b", worse)),
				"below, and behind it":           h.dir(inDir("a", h.dir(inFile("z", bad))), inFile("b", worse)),
				"deep below, and behind it":      h.dir(inDir("a", h.dir(inDir("z", h.dir(inDir("z", bad))))), inDir("b", worse)),
				"ahead, and below the next one":  h.dir(inFile("a", bad), inDir("b", h.dir(inFile("a", worse)))),
				"between, and below, and behind": h.dir(inDir("a", h.dir(inFile("b", bad), inDir("c", worse))), inDir("b", worse)),
				"two pieces":                     h.dir(inFile("a", h.file(part(bad, 1), part(worse, 1)))),
				"a piece, and the next file":     h.dir(inFile("a", h.file(part(h.piece("x"), 1), part(bad, 1))), inFile("b", worse)),
				"a file, and the next one's":     h.dir(inFile("a", bad), inFile("b", h.file(part(worse, 1)))),
				"a piece, and a directory":       h.dir(inFile("a", h.file(part(bad, 1))), inDir("b", worse)),
				"a name less and one more byte":  h.dir(inDir("B", bad), inDir("a", worse)),
				"a - and what is below":          h.dir(inDir("a", h.dir(inFile("x", bad))), inFile("a-b", worse)),
			} {
				checkTree(t, name+": "+s.name+", "+later.name, h.list(), top, nil, s.err)
			}
		}
	}
}

// chain is the key of a directory of so many directories in one another, the last of which is that of a key.
func (h heap) chain(n int, last string) string {
	for range n {
		last = h.dir(inDir("d", last))
	}
	return last
}

// below is a path of n directories.
func below(n int) string { return strings.TrimSuffix(strings.Repeat("d/", n), "/") }

// deepItems is n directories in one another.
func deepItems(n int) []api.Item {
	var l []api.Item
	for i := range n {
		l = append(l, dirItem(below(i+1)))
	}
	return l
}

// TestDepth: P13.1, paths of up to eight names, and of more, be they of files or directories; a path is ahead of its node.
func TestDepth(t *testing.T) {
	h := heap{}
	empty, file := h.dir(), h.whole("x")
	for n := range 12 {
		top := h.chain(n, empty)
		inside := h.chain(n, h.dir(inFile("f", file)))
		missing := h.chain(n, h.dir(inFile("f", key(1))))
		missingDir := h.chain(n, h.dir(inDir("f", key(1))))
		l := h.list()
		if n > mostNames {
			for _, k := range []string{top, inside, missing, missingDir} {
				checkTree(t, "too deep", l, k, nil, api.ErrDepth)
			}
			continue
		}
		checkTree(t, "deep", l, top, deepItems(n), api.OK)
		if n == mostNames {
			for _, k := range []string{inside, missing, missingDir} {
				checkTree(t, "a name too deep", l, k, nil, api.ErrDepth)
			}
			continue
		}
		checkTree(t, "a file, deep", l, inside, append(deepItems(n), fileItem(strings.TrimPrefix(below(n)+"/f", "/"), "x")), api.OK)
		checkTree(t, "a file not there, deep", l, missing, nil, api.ErrNone)
		checkTree(t, "a directory not there, deep", l, missingDir, nil, api.ErrNone)
	}
}

// TestDepthAmong: P13.1, where what is too deep stands among other things that are wrong, and names of 31 bytes.
func TestDepthAmong(t *testing.T) {
	h := heap{}
	file := h.whole("x")
	tooDeep := h.chain(mostNames, h.dir(inFile("f", file)))
	for _, c := range []struct {
		name string
		top  string
		err  api.Errno
	}{
		{"behind what is not there", h.dir(inFile("a", key(1)), inDir("d", h.chain(mostNames-1, h.dir(inFile("f", file))))), api.ErrNone},
		{"ahead of what is not there", h.dir(inDir("d", h.chain(mostNames-1, h.dir(inFile("f", file)))), inFile("e", key(1))), api.ErrDepth},
		{"behind what is deep and not there", h.dir(inDir("a", h.chain(mostNames-2, h.dir(inFile("f", key(1))))), inDir("b", tooDeep)), api.ErrNone},
		{"behind a piece of another size", h.dir(inFile("a", h.file(part(h.piece("x"), 2))), inDir("b", tooDeep)), api.ErrRange},
		{"ahead of a piece of another size", h.dir(inDir("a", tooDeep), inFile("b", h.file(part(h.piece("x"), 2)))), api.ErrDepth},
		{"an empty directory that is just deep enough", h.dir(inDir("a", h.chain(mostNames-1, h.dir())), inDir("b", tooDeep)), api.ErrDepth},
	} {
		checkTree(t, c.name, h.list(), c.top, nil, c.err)
	}
	long, path := h.dir(), ""
	var want []api.Item
	for i := range mostNames {
		name := strings.Repeat(string([]byte{byte(200 - i)}), 31)
		long = h.dir(inDir(name, long))
	}
	for i := range mostNames {
		path += strings.Repeat(string([]byte{byte(193 + i)}), 31)
		want = append(want, dirItem(path))
		path += "/"
	}
	checkTree(t, "long names", h.list(), long, want, api.OK)
}

// files is n entries of a file.
func files(n int, key string) []api.Entry {
	var l []api.Entry
	for i := range n {
		l = append(l, inFile(fmt.Sprintf("f%02d", i), key))
	}
	return l
}

// TestMany: P13.1, sixty items, in whichever directories, and one more; how many there are is ahead of a node.
func TestMany(t *testing.T) {
	h := heap{}
	file, empty := h.whole("x"), h.dir()
	for _, c := range []struct {
		name string
		top  string
		n    int
		err  api.Errno
	}{
		{"sixty files", h.dir(files(60, file)...), 60, api.OK},
		{"59 files", h.dir(files(59, file)...), 59, api.OK},
		{"sixty, the last an empty directory", h.dir(append(files(59, file), inDir("z", empty))...), 60, api.OK},
		{"sixty, and one in the last", h.dir(append(files(59, file), inDir("z", h.dir(inFile("a", file))))...), 0, api.ErrMany},
		{"sixty, and one in the first", h.dir(append([]api.Entry{inDir("a", h.dir(inFile("a", file)))}, files(59, file)...)...), 0, api.ErrMany},
		{"sixty, one of them in the first", h.dir(append([]api.Entry{inDir("a", h.dir(inFile("a", file)))}, files(58, file)...)...), 60, api.OK},
		{"one, and sixty in it", h.dir(inDir("a", h.dir(files(60, file)...))), 0, api.ErrMany},
		{"one, and 59 in it", h.dir(inDir("a", h.dir(files(59, file)...))), 60, api.OK},
		{"one, and 59 in it, and one behind", h.dir(inDir("a", h.dir(files(59, file)...)), inFile("b", file)), 0, api.ErrMany},
		{"two of thirty", h.dir(inDir("a", h.dir(files(29, file)...)), inDir("b", h.dir(files(29, file)...))), 60, api.OK},
		{"two of thirty, and one more", h.dir(inDir("a", h.dir(files(29, file)...)), inDir("b", h.dir(files(30, file)...))), 0, api.ErrMany},
		{"three of twenty", h.dir(inDir("a", h.dir(files(19, file)...)), inDir("b", h.dir(files(19, file)...)), inDir("c", h.dir(files(19, file)...))), 60, api.OK},
		{"the last one is not there", h.dir(append(files(59, file), inFile("z", key(1)))...), 0, api.ErrNone},
		{"the last directory is not there", h.dir(append(files(59, file), inDir("z", key(1)))...), 0, api.ErrNone},
		{"one more, which is not there", h.dir(append(files(59, file), inDir("z", h.dir(inFile("a", key(1)))))...), 0, api.ErrMany},
		{"one more, a directory that is not there", h.dir(append(files(59, file), inDir("z", h.dir(inDir("a", key(1)))))...), 0, api.ErrMany},
		{"one more, of another kind", h.dir(append(files(59, file), inDir("z", h.dir(inDir("a", file))))...), 0, api.ErrMany},
		{"one more, whose piece has another size", h.dir(append(files(59, file), inDir("z", h.dir(inFile("a", h.file(part(h.piece("x"), 3))))))...), 0, api.ErrMany},
		{"one more behind one that is not there", h.dir(append(files(58, file), inFile("y", key(1)), inDir("z", h.dir(inFile("a", file))))...), 0, api.ErrNone},
		{"one more, eight names deep", h.dir(append(files(53, file), inDir("z", h.chain(6, h.dir(inFile("a", file)))))...), 0, api.ErrMany},
		{"sixty, eight names deep", h.dir(append(files(52, file), inDir("z", h.chain(6, h.dir(inFile("a", file)))))...), 60, api.OK},
		{"one more, nine names deep: the path is told first", h.dir(append(files(52, file), inDir("z", h.chain(7, h.dir(inFile("a", file)))))...), 0, api.ErrDepth},
		{"one more, nine names deep, which is not there", h.dir(append(files(52, file), inDir("z", h.chain(7, h.dir(inFile("a", key(1))))))...), 0, api.ErrDepth},
		{"sixty, nine names deep", h.dir(append(files(51, file), inDir("z", h.chain(7, h.dir(inFile("a", file)))))...), 0, api.ErrDepth},
	} {
		l, err := h.tree(c.top)
		if len(l) != c.n || err != c.err {
			t.Fatalf("%s: the chapter's words come to %d items, %v", c.name, len(l), err)
		}
		checkTree(t, c.name, h.list(), c.top, l, c.err)
	}
}

// TestTowers: P13.1, 0.1, directories that stand many times in one another: what is too much is told as soon as it is met.
func TestTowers(t *testing.T) {
	h := heap{}
	for _, n := range []int{2, 7, 60} {
		last := h.dir()
		for range 7 {
			var l []api.Entry
			for i := range n {
				l = append(l, inDir(fmt.Sprintf("d%02d", i), last))
			}
			last = h.dir(l...)
		}
		inTime(t, func() { checkTree(t, "towers", h.list(), last, nil, api.ErrMany) })
		more := h.chain(1000, last)
		inTime(t, func() { checkTree(t, "towers, deep", h.list(), more, nil, api.ErrDepth) })
	}
	// 2 and 4 and 8 and 16: thirty directories.
	last := h.dir()
	for range 4 {
		last = h.dir(inDir("a", last), inDir("b", last))
	}
	l, err := h.tree(last)
	if len(l) != 30 || err != api.OK {
		t.Fatalf("there are %d items, %v", len(l), err)
	}
	checkTree(t, "a tower", h.list(), last, l, api.OK)
	both := h.dir(append([]api.Entry{inDir("a", last)}, files(29, h.whole("x"))...)...)
	l, _ = h.tree(both)
	if len(l) != 60 {
		t.Fatalf("there are %d items", len(l))
	}
	checkTree(t, "a tower and thirty", h.list(), both, l, api.OK)
}

// TestAll: P13.1, files of 65536 bytes in all, and of one more, met in whichever file and piece; what is wrong with nodes ahead of that.
func TestAll(t *testing.T) {
	h := heap{}
	most, _ := h.great(mostFile)
	less, _ := h.great(mostFile - 1)
	x, y := h.piece("x"), h.piece("yy")
	one, none := h.file(part(x, 1)), h.file()
	small := h.file(slices.Repeat([]api.Part{part(x, 1)}, mostParts)...)
	for _, c := range []struct {
		name string
		l    []api.Entry
		err  api.Errno
	}{
		{"65536", []api.Entry{inFile("a", most), inFile("b", most)}, api.OK},
		{"65536, and files of nothing", []api.Entry{inFile("a", most), inFile("b", most), inFile("c", none), inDir("d", h.dir(inFile("e", none)))}, api.OK},
		{"65537", []api.Entry{inFile("a", most), inFile("b", most), inFile("c", one)}, api.ErrRange},
		{"65537, one ahead", []api.Entry{inFile("a", one), inFile("b", most), inFile("c", most)}, api.ErrRange},
		{"65536, one ahead", []api.Entry{inFile("a", one), inFile("b", less), inFile("c", most)}, api.OK},
		{"65536, one behind", []api.Entry{inFile("a", less), inFile("b", most), inFile("c", one)}, api.OK},
		{"65537, below", []api.Entry{inDir("a", h.dir(inFile("a", most))), inDir("b", h.dir(inFile("b", most))), inDir("c", h.dir(inFile("c", one)))}, api.ErrRange},
		{"65536, below", []api.Entry{inDir("a", h.dir(inFile("a", most))), inDir("b", h.dir(inFile("b", less))), inDir("c", h.dir(inFile("c", one)))}, api.OK},
		{"three of the greatest", []api.Entry{inFile("a", most), inFile("b", most), inFile("c", most)}, api.ErrRange},
		{"sixty of the greatest", files(60, most), api.ErrRange},
		{"sixty of 1024", files(60, small), api.OK},
		{"two that can be run", []api.Entry{{Name: "a", Kind: api.NdFile, Exec: true, Key: most}, {Name: "b", Kind: api.NdFile, Exec: true, Key: most}, {Name: "c", Kind: api.NdFile, Exec: true, Key: one}}, api.ErrRange},
		{"one more, not there", []api.Entry{inFile("a", most), inFile("b", most), inFile("c", key(1))}, api.ErrNone},
		{"one more, whose piece is not there", []api.Entry{inFile("a", most), inFile("b", most), inFile("c", h.file(part(key(1), 1)))}, api.ErrNone},
		{"one more, whose piece is none", []api.Entry{inFile("a", most), inFile("b", most), inFile("c", h.file(part(none, 1)))}, api.ErrKind},
		{"one more, whose next piece is not there", []api.Entry{inFile("a", most), inFile("b", most), inFile("c", h.file(part(x, 1), part(key(1), 1)))}, api.ErrRange},
		{"the last, whose next piece is not there", []api.Entry{inFile("a", most), inFile("b", less), inFile("c", h.file(part(x, 1), part(key(1), 1)))}, api.ErrNone},
		{"the last but one, and a piece of two", []api.Entry{inFile("a", most), inFile("b", less), inFile("c", h.file(part(y, 2)))}, api.ErrRange},
		{"one more, ahead of what is too deep", []api.Entry{inFile("a", most), inFile("b", most), inFile("c", one), inDir("d", h.chain(9, none))}, api.ErrRange},
		{"one more, behind what is too deep", []api.Entry{inFile("a", most), inFile("b", most), inDir("c", h.chain(9, none)), inFile("d", one)}, api.ErrDepth},
		{"one more, ahead of what is too many", append([]api.Entry{inFile("a", most), inFile("b", most), inFile("c", one)}, files(57, none)...), api.ErrRange},
		{"one more, which is too many", append([]api.Entry{inFile("a", most), inFile("b", most)}, append(files(57, none), inDir("z", h.dir(inFile("z", one))))...), api.ErrMany},
		{"one more, in an entry of another kind", []api.Entry{inFile("a", most), inFile("b", most), inDir("c", one)}, api.ErrKind},
	} {
		top := h.dir(c.l...)
		l, err := h.tree(top)
		if err != c.err {
			t.Fatalf("%s: the chapter's words come to %v", c.name, err)
		}
		checkTree(t, c.name, h.list(), top, l, c.err)
	}
}

// TestAllBetween: P13.1, where in the third file the bytes get too many.
func TestAllBetween(t *testing.T) {
	for at := range 12 {
		h := heap{}
		most, _ := h.great(mostFile)
		x := h.piece("x")
		ahead := h.file(slices.Repeat([]api.Part{part(x, 1)}, 10)...)
		var l []api.Part
		for range 12 {
			l = append(l, part(x, 1))
		}
		l[at].Key = key(1)
		rest, _ := h.great(mostFile - 20)
		top := h.dir(inFile("a", most), inFile("b", rest), inFile("c", ahead), inFile("d", h.file(l...)))
		err := api.ErrNone
		if at == 11 {
			err = api.ErrRange
		}
		checkTree(t, fmt.Sprintf("not there at %d", at), h.list(), top, nil, err)
	}
}

// TestItems: P13.1, what an item is made of: its path, whether it is a directory, whether it can be run, its bytes; entries in their order, what is below one right behind it.
func TestItems(t *testing.T) {
	h := heap{}
	run := func(name, key string) api.Entry {
		return api.Entry{Name: name, Kind: api.NdFile, Exec: true, Key: key}
	}
	inner := h.dir(run("-", h.whole("1")), inFile("a", h.whole("2", "1")), inDir("b", h.dir()), run("c", h.file()))
	top := h.dir(inFile("A", h.whole("12", "3")), inDir("a", inner), inFile("a-", h.whole("x")), inDir("aa", inner), inDir("b", h.dir(inDir("a", inner))), run("\x80\xff", h.whole("\x00\xff")), inFile("\xff", h.whole("/")))
	want := []api.Item{
		fileItem("A", "123"),
		dirItem("a"), program("a/-", "1"), fileItem("a/a", "21"), dirItem("a/b"), program("a/c", ""),
		fileItem("a-", "x"),
		dirItem("aa"), program("aa/-", "1"), fileItem("aa/a", "21"), dirItem("aa/b"), program("aa/c", ""),
		dirItem("b"), dirItem("b/a"), program("b/a/-", "1"), fileItem("b/a/a", "21"), dirItem("b/a/b"), program("b/a/c", ""),
		program("\x80\xff", "\x00\xff"), fileItem("\xff", "/"),
	}
	checkTree(t, "items", h.list(), top, want, api.OK)
	checkTree(t, "items", h.list(), inner, []api.Item{program("-", "1"), fileItem("a", "21"), dirItem("b"), program("c", "")}, api.OK)
}

// goesBack holds P13.4 and P13.5 of a tree, if no file of it has too many pieces.
func goesBack(t *testing.T, p api.Params, l []api.Item) {
	t.Helper()
	if !tree.Fit(l) || slices.ContainsFunc(l, func(x api.Item) bool { return len(cdc.Pieces(p, x.Data)) > mostParts }) {
		return
	}
	top, objects := dag.Build(p, l)
	checkTree(t, "back", objects, top, l, api.OK)
	checkReach(t, "back", objects, []string{top}, keysOf(objects), true)
	if !fetch.Check(objects) {
		t.Fatalf("Check of the objects of %s = false", short(l))
	}
}

// TestThereAndBack: P13.4, P13.5, all small trees, trees of seeds, at the limits, and of all kinds, cut in all ways.
func TestThereAndBack(t *testing.T) {
	small := append(trees("a", "a/b", "a/b/c", "a/z", "a-b", "ab", "b"), trees("a", "a/-", "a/a", "a/a/a", "a/a/a/a", "aa", "aa/a")...)
	if len(small) < 1000 {
		t.Fatalf("there are just %d trees", len(small))
	}
	for _, l := range small {
		goesBack(t, params(2, 4, 8), l)
	}
	deep := append(deepItems(7), program(below(8), seeded(9, mostFile)))
	all := [][]api.Item{nil, many(1094), many(1024), many(1), many(0), deep, {fileItem("a", text(mostFile)), fileItem("b", text(mostFile)), fileItem("c", "")}, {fileItem("a", "\x03\x00"), dirItem("b"), fileItem("c", "\x02\x00")}}
	for seed := range uint64(30) {
		all = append(all, seededTree(seed))
	}
	r := rand.New(rand.NewPCG(13, 1))
	for range 40 {
		all = append(all, anyTree(r))
	}
	for _, l := range all {
		for _, p := range append(cuts(), params(32, 32, 32)) {
			goesBack(t, p, l)
		}
	}
}

// TestManyTrees: P13.1, P13.2, P13.4, trees whose objects stand together, with others: each is told by its key, and what is reached from some of them is what their own objects are.
func TestManyTrees(t *testing.T) {
	r := rand.New(rand.NewPCG(13, 2))
	h := heap{}
	var tops []string
	var all [][]api.Item
	var own [][]api.Object
	for range 30 {
		l := anyTree(r)
		top, objects := dag.Build(params(16, 64, 256), l)
		maps.Copy(h, heapOf(objects))
		tops, all, own = append(tops, top), append(all, l), append(own, objects)
	}
	for i := range 300 {
		h[sum(fmt.Sprint("key", i))] = fmt.Sprint("other", i)
	}
	objects := h.list()
	for i, l := range all {
		checkTree(t, "among others", objects, tops[i], l, api.OK)
	}
	for range 100 {
		var from []string
		want := heap{}
		for i := range tops {
			if r.IntN(5) == 0 {
				from = append(from, tops[i], tops[i])
				maps.Copy(want, heapOf(own[i]))
			}
		}
		r.Shuffle(len(from), func(i, k int) { from[i], from[k] = from[k], from[i] })
		checkReach(t, "some", objects, from, slices.Sorted(maps.Keys(want)), true)
	}
}

// TestSpoiltObjects: P13.1, P13.2, a tree's objects of which one is not there, has another one's bytes, or another byte: what is wrong is told, and the set is that of all that was reached.
func TestSpoiltObjects(t *testing.T) {
	for _, l := range [][]api.Item{seededTree(7), {dirItem("a"), program("a/z", "abcdefghij klmnop"), fileItem("a-b", ""), dirItem("c"), fileItem("d", "abcdeabcde")}} {
		top, objects := dag.Build(params(16, 64, 256), l)
		h := heapOf(objects)
		for i, x := range objects {
			left := h.without(x.Key)
			checkTree(t, "one less", left.list(), top, nil, api.ErrNone)
			set, whole := left.reach([]string{top})
			checkReach(t, "one less", left.list(), []string{top}, set, false)
			if whole {
				t.Fatal("one less is whole")
			}
			for _, raw := range []string{x.Raw + "\x00", x.Raw[:len(x.Raw)-1], "", "\x00", "\x03\x00\x00", objects[(i+1)%len(objects)].Raw, "\x01new"} {
				other := h.with(x.Key, raw)
				checkTree(t, "other bytes", other.list(), top, nil, api.ErrKey)
				set, whole := other.reach([]string{top})
				checkReach(t, "other bytes", other.list(), []string{top}, set, whole)
				if fetch.Check(other.list()) {
					t.Fatalf("Check = true with other bytes of object %d", i)
				}
			}
		}
	}
}
