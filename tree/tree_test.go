package tree_test

import (
	"fmt"
	"math/rand/v2"
	"slices"
	"strings"
	"testing"
	"time"

	"silo/api"
	"silo/tree"
)

// What the chapter names.
const (
	mostItems = 60
	mostFile  = 32768
	mostAll   = 65536
)

func dir(path string) api.Item { return api.Item{Path: path, Dir: true} }

func file(path, data string) api.Item { return api.Item{Path: path, Data: data} }

func program(path, data string) api.Item { return api.Item{Path: path, Exec: true, Data: data} }

func bytes(n int) string { return strings.Repeat("x", n) }

// many is n files in the topmost directory, of so many bytes each.
func many(n, size int) []api.Item {
	var l []api.Item
	for i := range n {
		l = append(l, file(fmt.Sprintf("m%04d", i), bytes(size)))
	}
	return l
}

// short is a tree in words that can be read in a failure.
func short(l []api.Item) string {
	var out strings.Builder
	for i, x := range l {
		if i == 8 {
			fmt.Fprintf(&out, "and %d more", len(l)-i)
			break
		}
		fmt.Fprintf(&out, "{%.40q dir %v exec %v %.10q/%d} ", x.Path, x.Dir, x.Exec, x.Data, len(x.Data))
	}
	return out.String()
}

// isPath is what chapter 9 says a path is.
func isPath(s string) bool {
	names := strings.Split(s, "/")
	for _, name := range names {
		if len(name) < 1 || len(name) > 31 || name == "." || name == ".." || strings.Contains(name, "\x00") {
			return false
		}
	}
	return len(names) <= 8
}

// isAhead tells whether a path stands ahead of another one: a 0, that is in no name, is ahead of all else.
func isAhead(a, b string) bool {
	return strings.ReplaceAll(a, "/", "\x00") < strings.ReplaceAll(b, "/", "\x00")
}

// above is the directory of a path; empty: the topmost.
func above(s string) string { return s[:max(0, strings.LastIndex(s, "/"))] }

// is tells whether a list has something at a path, and what.
func is(l []api.Item, path string) (api.Item, bool) {
	for _, x := range l {
		if x.Path == path {
			return x, true
		}
	}
	return api.Item{}, false
}

// total is how many bytes all have.
func total(l []api.Item) int {
	n := 0
	for _, x := range l {
		n += len(x.Data)
	}
	return n
}

// same holds two lists against each other, field by field.
func same(a, b []api.Item) bool {
	if len(a) != len(b) {
		return false
	}
	for i := range a {
		if a[i].Path != b[i].Path || a[i].Dir != b[i].Dir || a[i].Exec != b[i].Exec || a[i].Data != b[i].Data {
			return false
		}
	}
	return true
}

// isFit is what the chapter says of a tree.
func isFit(l []api.Item) bool {
	if len(l) > mostItems || total(l) > mostAll {
		return false
	}
	for i, x := range l {
		if !isPath(x.Path) || i > 0 && !isAhead(l[i-1].Path, x.Path) {
			return false
		}
		if up, there := is(l, above(x.Path)); above(x.Path) != "" && !(there && up.Dir) {
			return false
		}
		if x.Dir && (x.Data != "" || x.Exec) || len(x.Data) > mostFile {
			return false
		}
	}
	return true
}

// without is a list without what is at a path.
func without(l []api.Item, path string) []api.Item {
	var out []api.Item
	for _, x := range l {
		if x.Path != path {
			out = append(out, x)
		}
	}
	return out
}

// with is a list with an item, sorted anew.
func with(l []api.Item, x api.Item) []api.Item {
	out := append(without(l, x.Path), x)
	slices.SortFunc(out, func(a, b api.Item) int {
		if isAhead(a.Path, b.Path) {
			return -1
		}
		return 1
	})
	return out
}

// slowPut is P10.2 as the chapter words it.
func slowPut(l []api.Item, x api.Item) ([]api.Item, api.Errno) {
	if !isPath(x.Path) {
		return l, api.ErrName
	}
	if x.Dir && (x.Data != "" || x.Exec) {
		return l, api.ErrForm
	}
	up, inside := is(l, above(x.Path))
	if above(x.Path) != "" && !inside {
		return l, api.ErrNone
	}
	old, there := is(l, x.Path)
	if inside && !up.Dir || there && old.Dir != x.Dir {
		return l, api.ErrKind
	}
	out := with(l, x)
	if len(x.Data) > mostFile || total(out) > mostAll {
		return l, api.ErrRange
	}
	if len(out) > mostItems {
		return l, api.ErrMany
	}
	return out, api.OK
}

// slowDrop is P10.3 as the chapter words it.
func slowDrop(l []api.Item, path string) ([]api.Item, api.Errno) {
	if _, there := is(l, path); !there {
		return l, api.ErrNone
	}
	var out []api.Item
	for _, x := range l {
		gone := false
		for at := x.Path; at != ""; at = above(at) {
			gone = gone || at == path
		}
		if !gone {
			out = append(out, x)
		}
	}
	return out, api.OK
}

// slowNames is P10.4 as the chapter words it.
func slowNames(l []api.Item, dir string) []string {
	var out []string
	for _, x := range l {
		if above(x.Path) == dir {
			names := strings.Split(x.Path, "/")
			out = append(out, names[len(names)-1])
		}
	}
	return out
}

// holdsPut holds Put against the chapter, and what it was given against what that was.
func holdsPut(t *testing.T, l []api.Item, x api.Item) {
	t.Helper()
	given := slices.Clone(l)
	want, why := slowPut(l, x)
	got, err := tree.Put(l, x)
	if err != why || !same(got, want) {
		t.Fatalf("Put(%s, %s) = %s, %v, not %s, %v", short(l), short([]api.Item{x}), short(got), err, short(want), why)
	}
	if !same(l, given) {
		t.Fatalf("Put changed %s to %s", short(given), short(l))
	}
	if !isFit(got) || !tree.Fit(got) {
		t.Fatalf("Put(%s, %s) = %s, which is not fit", short(l), short([]api.Item{x}), short(got))
	}
}

// holdsDrop holds Drop against the chapter, and what it was given against what that was.
func holdsDrop(t *testing.T, l []api.Item, path string) {
	t.Helper()
	given := slices.Clone(l)
	want, why := slowDrop(l, path)
	got, err := tree.Drop(l, path)
	if err != why || !same(got, want) {
		t.Fatalf("Drop(%s, %.80q) = %s, %v, not %s, %v", short(l), path, short(got), err, short(want), why)
	}
	if !same(l, given) {
		t.Fatalf("Drop changed %s to %s", short(given), short(l))
	}
	if !isFit(got) || !tree.Fit(got) {
		t.Fatalf("Drop(%s, %.80q) = %s, which is not fit", short(l), path, short(got))
	}
}

// holdsNames holds Names and Find against the chapter.
func holdsNames(t *testing.T, l []api.Item, path string) {
	t.Helper()
	if got, want := tree.Names(l, path), slowNames(l, path); !slices.Equal(got, want) {
		t.Fatalf("Names(%s, %.80q) = %q, not %q", short(l), path, got, want)
	}
	want, there := is(l, path)
	if got, found := tree.Find(l, path); got != want || found != there {
		t.Fatalf("Find(%s, %.80q) = %s, %v", short(l), path, short([]api.Item{got}), found)
	}
}

// strange are texts that are at no item's place.
func strange() []string {
	return []string{
		"", "/", "a/", "/a", "a//b", "a/./b", "a/../a", ".", "..", "a\x00", "a/b/", "A", "aa", "a/a", "a/c", "a/bb", "a/b/a", "z", "\x00", "\xff", "-", "a-", "a.", "a/b-",
		"a/b/c/d/e/f/g/h/i", bytes(32), bytes(65536), strings.Repeat("a/", 1000),
	}
}

// forms are what may stand at a path, fit or not.
func forms(path string) []api.Item {
	return []api.Item{dir(path), file(path, ""), file(path, "d"), program(path, "e"), {Path: path, Dir: true, Data: "d"}, {Path: path, Dir: true, Exec: true}}
}

// trees are all that are made of some paths, in order, each not there, a directory, a file or one that can be run.
func trees(paths ...string) [][]api.Item {
	all := [][]api.Item{nil}
	for _, path := range paths {
		for _, l := range all {
			up, inside := is(l, above(path))
			if above(path) != "" && !(inside && up.Dir) {
				continue
			}
			for _, x := range []api.Item{dir(path), file(path, "12"), program(path, "")} {
				all = append(all, append(slices.Clone(l), x))
			}
		}
	}
	return all
}

// smallTrees are trees of up to seven items, whose paths begin alike.
func smallTrees() [][]api.Item {
	return append(trees("a", "a/b", "a/b/c", "a/z", "a-b", "ab", "b"), trees("a", "a/-", "a/a", "a/a/a", "a/a/a/a", "aa", "aa/a")...)
}

// deepest is a tree of eight directories in one another, and a file in each but the last.
func deepest() []api.Item {
	l := []api.Item{dir("d")}
	for path := "d"; len(l) < 8; {
		path += "/d"
		l = append(l, dir(path))
	}
	for _, x := range slices.Clone(l[:7]) {
		l = with(l, file(x.Path+"/f", "f"))
	}
	return l
}

// TestExample: the chapter's examples.
func TestExample(t *testing.T) {
	l, err := tree.Put(nil, dir("a"))
	if err != api.OK {
		t.Fatalf("Put of a = %v", err)
	}
	l, err = tree.Put(l, file("a/b", ""))
	if err != api.OK {
		t.Fatalf("Put of a/b = %v", err)
	}
	if got := tree.Names(l, "a"); !slices.Equal(got, []string{"b"}) {
		t.Errorf("Names of a = %q", got)
	}
	l, err = tree.Drop(l, "a")
	if len(l) != 0 || err != api.OK {
		t.Errorf("Drop of a = %s, %v", short(l), err)
	}
}

// TestFit: P10.1, trees that are fit, and what is none by one thing alone.
func TestFit(t *testing.T) {
	fit := [][]api.Item{
		nil, {}, {file("a", "")}, {dir("a")}, {program("a", "x")}, {dir("a"), file("a/b", "x")}, {dir("a"), dir("a/b"), file("a/b/c", "")},
		{dir("a"), file("a/z", ""), file("a-b", "")}, {file("B", ""), file("a", "")}, {file("...", ""), file("\xff", "")}, {file("a", "\x00\xff/")},
		{dir("a"), dir("a/a"), dir("aa"), dir("aa/a")}, deepest(),
		many(60, 0), many(60, 1092), {file("a", bytes(32768))}, {file("a", bytes(32768)), file("b", bytes(32768))}, {file(bytes(31), "")},
	}
	for _, l := range fit {
		if !tree.Fit(l) {
			t.Errorf("Fit(%s) = false", short(l))
		}
	}
	unfit := [][]api.Item{
		{file("", "")}, {dir("")}, {file("a/", "")}, {file("/a", "")}, {file("..", "")}, {file("a\x00", "")}, {file(bytes(32), "")},
		{file("a/b", "")}, {dir("a/b")}, {file("a", ""), file("a/b", "")}, {dir("b"), file("a/b", "")}, {dir("a"), file("a/b", ""), file("a/b/c", "")},
		{dir("a"), file("a/b/c", "")}, {dir("a"), file("a/b", ""), file("a-b/c", "")},
		{file("b", ""), file("a", "")}, {file("a", ""), file("a", "")}, {dir("a"), dir("a")}, {dir("a"), file("a", "")}, {file("a-b", ""), dir("a"), file("a/z", "")},
		{dir("a"), file("a-b", ""), file("a/z", "")}, {file("a/b", ""), dir("a")}, {file("a", ""), file("B", "")},
		{{Path: "a", Dir: true, Data: "x"}}, {{Path: "a", Dir: true, Exec: true}}, {{Path: "a", Dir: true, Exec: true, Data: "x"}},
		many(61, 0), many(1000, 0), many(60, 1093), {file("a", bytes(32769))}, {file("a", bytes(32768)), file("b", bytes(32768)), file("c", "x")},
		with(deepest(), file("d/d/d/d/d/d/d/d/f", "")),
	}
	for _, l := range unfit {
		if tree.Fit(l) {
			t.Errorf("Fit(%s) = true", short(l))
		}
	}
}

// TestFitShort: P10.1, all short lists, fit or not.
func TestFitShort(t *testing.T) {
	var some []api.Item
	for _, path := range []string{"a", "a/b"} {
		some = append(some, forms(path)...)
	}
	some = append(some, dir("a-b"), file("a/b/c", ""), file("a-b/c", ""), file("b", ""), dir(""), file("a//b", ""), file("a/", "x"))
	last := [][]api.Item{nil}
	fits := 0
	for range 4 {
		var longer [][]api.Item
		for _, l := range last {
			for _, x := range some {
				longer = append(longer, append(slices.Clone(l), x))
			}
		}
		for _, l := range longer {
			fit := isFit(l)
			if tree.Fit(l) != fit {
				t.Fatalf("Fit(%s) = %v", short(l), !fit)
			}
			if fit {
				fits++
			}
		}
		last = longer
	}
	if fits < 50 {
		t.Errorf("just %d of the lists are fit", fits)
	}
}

// TestFitSpoilt: P10.1, a tree of sixty items that is spoilt at each place by one thing.
func TestFitSpoilt(t *testing.T) {
	l := []api.Item{dir("d")}
	for _, x := range many(29, 7) {
		l = append(l, file("d/"+x.Path, x.Data))
	}
	l = append(l, many(30, 9)...)
	if len(l) != mostItems || !tree.Fit(l) {
		t.Fatalf("%d items are not fit", len(l))
	}
	for i := range l {
		for name, spoil := range map[string]func(x *api.Item){
			"a path that is none":          func(x *api.Item) { x.Path += "/" },
			"a name that is too long":      func(x *api.Item) { x.Path += bytes(30) },
			"a path that does not rise":    func(x *api.Item) { x.Path = "\x01" },
			"one that rises too far":       func(x *api.Item) { x.Path = "zz" },
			"a directory that is none":     func(x *api.Item) { x.Path = "d-/" + x.Path },
			"a directory that is a file":   func(x *api.Item) { x.Path = "m0000/" + x.Path },
			"a directory with bytes":       func(x *api.Item) { x.Dir, x.Data = true, "x" },
			"a directory that can be run":  func(x *api.Item) { x.Dir, x.Data, x.Exec = true, "", true },
			"a file with too many bytes":   func(x *api.Item) { x.Dir, x.Data = false, bytes(32769) },
			"all with too many bytes":      func(x *api.Item) { x.Dir, x.Data = false, bytes(65536) },
			"what is at the next one":      func(x *api.Item) { *x = l[(i+1)%len(l)] },
			"nothing":                      func(x *api.Item) { *x = api.Item{} },
			"other bytes, which are right": func(x *api.Item) { x.Dir, x.Data = x.Path == "d", strings.ToUpper(x.Data) },
		} {
			m := slices.Clone(l)
			spoil(&m[i])
			if tree.Fit(m) != isFit(m) {
				t.Errorf("Fit with %s at %d = %v", name, i, !isFit(m))
			}
		}
	}
}

// TestFindNames: P10.1 and P10.4 of all small trees, at all paths of theirs, at others, and at what is no path.
func TestFindNames(t *testing.T) {
	var paths []string
	for _, l := range smallTrees() {
		for _, x := range l {
			if !slices.Contains(paths, x.Path) {
				paths = append(paths, x.Path)
			}
		}
	}
	paths = append(paths, strange()...)
	for _, l := range smallTrees() {
		for _, path := range paths {
			holdsNames(t, l, path)
		}
	}
	for _, l := range [][]api.Item{deepest(), many(60, 1)} {
		for _, x := range l {
			holdsNames(t, l, x.Path)
			for _, path := range strange() {
				holdsNames(t, l, path)
				holdsNames(t, l, x.Path+path)
				holdsNames(t, l, x.Path+"/"+path)
			}
		}
	}
}

// TestNamesWorkedOut: P10.4, the names of a tree's directories as they were told by hand.
func TestNamesWorkedOut(t *testing.T) {
	l := []api.Item{file("B", ""), dir("a"), file("a/-", ""), dir("a/b"), file("a/b/c", ""), file("a/z", ""), file("a-b", ""), dir("c"), file("d", "")}
	for _, c := range []struct {
		dir   string
		names []string
	}{
		{"", []string{"B", "a", "a-b", "c", "d"}}, {"a", []string{"-", "b", "z"}}, {"a/b", []string{"c"}},
		{"B", nil}, {"a/b/c", nil}, {"c", nil}, {"e", nil}, {"a/", nil}, {"/", nil}, {"/a", nil}, {"a//b", nil}, {"b", nil}, {"a-", nil}, {".", nil}, {"a/c", nil},
	} {
		if got := tree.Names(l, c.dir); !slices.Equal(got, c.names) {
			t.Errorf("Names of %q = %q, not %q", c.dir, got, c.names)
		}
	}
}

// TestSize: P10.1, how many bytes files have.
func TestSize(t *testing.T) {
	for _, c := range []struct {
		l []api.Item
		n int
	}{
		{nil, 0}, {[]api.Item{}, 0}, {[]api.Item{dir("a")}, 0}, {[]api.Item{file("a", "")}, 0}, {[]api.Item{file("a", "ä")}, 2},
		{[]api.Item{dir("a"), file("a/b", "123"), program("c", "\x00\xff")}, 5}, {deepest(), 7}, {many(60, 1092), 65520},
		{[]api.Item{file("a", bytes(32768)), file("b", bytes(32768))}, 65536},
	} {
		if got := tree.Size(c.l); got != c.n {
			t.Errorf("Size(%s) = %d, not %d", short(c.l), got, c.n)
		}
	}
	for _, l := range smallTrees() {
		if got := tree.Size(l); got != total(l) {
			t.Fatalf("Size(%s) = %d", short(l), got)
		}
	}
}

// TestSame: P10.1, all pairs of short lists, fit or not.
func TestSame(t *testing.T) {
	some := append(append(forms("a"), forms("b")...), api.Item{}, file("", "a"), file("a", "D"))
	lists := [][]api.Item{nil, {}, some, slices.Clone(some), some[1:], some[:len(some)-1]}
	for _, x := range some {
		lists = append(lists, []api.Item{x})
		for _, y := range some {
			lists = append(lists, []api.Item{x, y})
		}
	}
	for _, a := range lists {
		for _, b := range lists {
			if tree.Same(a, b) != same(a, b) {
				t.Fatalf("Same(%s, %s) = %v", short(a), short(b), !same(a, b))
			}
		}
	}
}

// TestSameField: P10.1, two long lists that are unlike in one field at each place, or in how long they are.
func TestSameField(t *testing.T) {
	l := append(many(100, 300), dir("n"), program("n/p", "x"))
	if !tree.Same(l, slices.Clone(l)) {
		t.Error("a list and its copy are not the same")
	}
	for i := range l {
		for name, turn := range map[string]func(x *api.Item){
			"Path": func(x *api.Item) { x.Path += "x" },
			"Dir":  func(x *api.Item) { x.Dir = !x.Dir },
			"Exec": func(x *api.Item) { x.Exec = !x.Exec },
			"Data": func(x *api.Item) { x.Data += "x" },
		} {
			other := slices.Clone(l)
			turn(&other[i])
			if tree.Same(l, other) || tree.Same(other, l) {
				t.Errorf("with another %s at %d they are the same", name, i)
			}
		}
		if tree.Same(l, l[:i]) || tree.Same(l[:i], l) || tree.Same(l, append(slices.Clone(l[:i]), l[i+1:]...)) {
			t.Errorf("with %d items they are the same", i)
		}
	}
}

// TestPutSmall: P10.2 and P10.5, whatever may be put into all small trees.
func TestPutSmall(t *testing.T) {
	var some []api.Item
	for _, path := range []string{"a", "a/b", "a/b/c", "a/b/c/d", "a/z", "a/a", "a-b", "a-b/c", "aa", "b", "c/d", "", "a/", "a//b", "a/..", "/b", bytes(32), "a/" + bytes(31)} {
		some = append(some, forms(path)...)
	}
	met := map[api.Errno]int{}
	for _, l := range smallTrees() {
		for _, x := range some {
			holdsPut(t, l, x)
			_, err := tree.Put(l, x)
			met[err]++
		}
	}
	for _, err := range []api.Errno{api.OK, api.ErrName, api.ErrForm, api.ErrNone, api.ErrKind} {
		if met[err] == 0 {
			t.Errorf("%v was never met", err)
		}
	}
}

// TestPutWorkedOut: P10.2, each error at its edges, and which of several it is, as told by hand.
func TestPutWorkedOut(t *testing.T) {
	small := []api.Item{dir("a"), file("a/b", "old"), file("c", "")}
	half := []api.Item{file("a", bytes(32768)), dir("d")}
	full := []api.Item{file("a", bytes(32768)), file("b", bytes(32767)), file("c", "x"), dir("d")}
	most := append([]api.Item{dir("d")}, many(59, 0)...)
	both := append([]api.Item{dir("d")}, append(many(57, 0), file("n1", bytes(32768)), file("n2", bytes(32768)))...)
	for _, c := range []struct {
		name string
		l    []api.Item
		x    api.Item
		want api.Errno
	}{
		{"a name of 31 bytes", small, file(bytes(31), ""), api.OK},
		{"a name of 32 bytes", small, file(bytes(32), ""), api.ErrName},
		{"eight names", deepest(), dir("d/d/d/d/d/d/d/e"), api.OK},
		{"nine names", deepest(), dir("d/d/d/d/d/d/d/d/d"), api.ErrName},
		{"no path", nil, file("", ""), api.ErrName},
		{"no path, a directory with bytes", small, api.Item{Path: "a/", Dir: true, Data: "x"}, api.ErrName},
		{"no path, nothing above it", small, file("x//y", ""), api.ErrName},
		{"no path, below a file", small, file("c/.", ""), api.ErrName},
		{"no path, too many bytes", small, file("..", bytes(32769)), api.ErrName},
		{"no path, too many items", most, file("/", ""), api.ErrName},
		{"a directory with bytes", small, api.Item{Path: "e", Dir: true, Data: "x"}, api.ErrForm},
		{"a directory that can be run", small, api.Item{Path: "e", Dir: true, Exec: true}, api.ErrForm},
		{"one with bytes that can be run", small, api.Item{Path: "e", Dir: true, Exec: true, Data: "x"}, api.ErrForm},
		{"a directory with bytes, nothing above it", small, api.Item{Path: "x/y", Dir: true, Data: "x"}, api.ErrForm},
		{"one that can be run, nothing above it", small, api.Item{Path: "x/y", Dir: true, Exec: true}, api.ErrForm},
		{"one with bytes below a file", small, api.Item{Path: "c/y", Dir: true, Data: "x"}, api.ErrForm},
		{"one that can be run in a file's place", small, api.Item{Path: "c", Dir: true, Exec: true}, api.ErrForm},
		{"one with too many bytes", small, api.Item{Path: "e", Dir: true, Data: bytes(32769)}, api.ErrForm},
		{"one that can be run, too many items", most, api.Item{Path: "e", Dir: true, Exec: true}, api.ErrForm},
		{"nothing above it", small, file("x/y", ""), api.ErrNone},
		{"nothing above a directory", small, dir("x/y"), api.ErrNone},
		{"nothing above it, a file above that", small, file("c/x/y", ""), api.ErrNone},
		{"nothing above it, a directory above that", small, file("a/x/y", ""), api.ErrNone},
		{"nothing above it, a name that begins like it", small, file("a-/y", ""), api.ErrNone},
		{"nothing above it, too many bytes", small, file("x/y", bytes(32769)), api.ErrNone},
		{"nothing above it, too many items", most, file("x/y", ""), api.ErrNone},
		{"a file above it", small, file("c/y", ""), api.ErrKind},
		{"a file above a directory", small, dir("a/b/y"), api.ErrKind},
		{"a file above it, too many bytes", small, file("c/y", bytes(32769)), api.ErrKind},
		{"a file above it, too many items", most, file("m0000/y", ""), api.ErrKind},
		{"a file in a directory's place", small, file("a", ""), api.ErrKind},
		{"one that can be run in a directory's place", small, program("a", "x"), api.ErrKind},
		{"a directory in a file's place", small, dir("a/b"), api.ErrKind},
		{"a file in a directory's place, too many bytes", small, file("a", bytes(32769)), api.ErrKind},
		{"a file in a directory's place, all too many", full, file("d", "x"), api.ErrKind},
		{"a directory in a file's place, too many items", most, dir("m0058"), api.ErrKind},
		{"a directory in its own place", small, dir("a"), api.OK},
		{"a file in a file's place", small, file("a/b", "new"), api.OK},
		{"one that can be run in a file's place", small, program("a/b", "old"), api.OK},
		{"a file of 32768 bytes", small, file("e", bytes(32768)), api.OK},
		{"a file of 32769 bytes", small, file("e", bytes(32769)), api.ErrRange},
		{"a file of 32769 bytes in another's place", half, file("a", bytes(32769)), api.ErrRange},
		{"a file of 65536 bytes", nil, file("e", bytes(65536)), api.ErrRange},
		{"65536 bytes in all", half, file("b", bytes(32768)), api.OK},
		{"no byte more than 65536", full, file("e", ""), api.OK},
		{"a directory beside 65536", full, dir("e"), api.OK},
		{"a byte more than 65536", full, file("e", "x"), api.ErrRange},
		{"a byte more than 65536, one that can be run", full, program("d/e", "x"), api.ErrRange},
		{"as many bytes in another's place", full, file("b", strings.Repeat("y", 32767)), api.OK},
		{"a byte more in another's place", full, file("b", bytes(32768)), api.ErrRange},
		{"a byte more in the place of one", full, file("c", "xy"), api.ErrRange},
		{"a byte less in another's place", full, file("b", bytes(32766)), api.OK},
		{"no bytes in another's place", full, file("a", ""), api.OK},
		{"too many bytes, too many items", most, file("e", bytes(32769)), api.ErrRange},
		{"all too many bytes, too many items", both, file("e", "x"), api.ErrRange},
		{"too many items", both, file("e", ""), api.ErrMany},
		{"the 61st item, a file", most, file("e", "x"), api.ErrMany},
		{"the 61st item, a directory", most, dir("e"), api.ErrMany},
		{"the 61st item, in a directory", most, program("d/e", ""), api.ErrMany},
		{"the 60th item", most[:59], file("d/e", "x"), api.OK},
		{"in another's place among 60", most, file("m0058", "x"), api.OK},
		{"a directory in its own place among 60", most, dir("d"), api.OK},
	} {
		got, err := tree.Put(c.l, c.x)
		if err != c.want {
			t.Errorf("%s: %v, not %v", c.name, err, c.want)
		}
		if now, there := is(got, c.x.Path); err == api.OK && (!there || now != c.x) {
			t.Errorf("%s: it is not there", c.name)
		}
		if err != api.OK && !same(got, c.l) {
			t.Errorf("%s: %s is told beside an error", c.name, short(got))
		}
		holdsPut(t, c.l, c.x)
	}
}

// TestPutPlaces: P10.2 and P10.5, items that are put in in any order come to one tree.
func TestPutPlaces(t *testing.T) {
	r := rand.New(rand.NewPCG(10, 2))
	want := append(many(57, 5), dir("n"))
	want = append(want, program("n/a", "1"), file("n-a", "2"))
	if !isFit(want) {
		t.Fatal("what is wanted is not fit")
	}
	for range 200 {
		left := slices.Clone(want)
		r.Shuffle(len(left), func(i, k int) { left[i], left[k] = left[k], left[i] })
		var l []api.Item
		for tries := 0; len(left) > 0; tries++ {
			if tries == 1000 {
				t.Fatalf("%s can't be put into %s", short(left), short(l))
			}
			x := left[0]
			left = left[1:]
			more, err := tree.Put(l, x)
			if err == api.ErrNone {
				left = append(left, x)
				continue
			}
			if err != api.OK || len(more) != len(l)+1 {
				t.Fatalf("Put(%s, %s) = %s, %v", short(l), short([]api.Item{x}), short(more), err)
			}
			l = more
		}
		if !same(l, want) {
			t.Fatalf("the items came to %s", short(l))
		}
	}
}

// TestDropSmall: P10.3 and P10.5, all small trees, at all paths of theirs, at others, and at what is no path.
func TestDropSmall(t *testing.T) {
	paths := append(strange(), "a", "a/b", "a/b/c", "a/z", "a-b", "ab", "b", "a/-", "a/a/a", "a/a/a/a", "aa/a")
	for _, l := range smallTrees() {
		for _, path := range paths {
			holdsDrop(t, l, path)
		}
	}
	for _, l := range [][]api.Item{deepest(), many(60, 1092)} {
		for _, x := range l {
			holdsDrop(t, l, x.Path)
			holdsDrop(t, l, x.Path+"/")
			holdsDrop(t, l, x.Path+"/x")
			holdsDrop(t, l, x.Path[:len(x.Path)-1])
		}
	}
}

// TestDropWorkedOut: P10.3, what is left as told by hand: what just begins like a directory is not in it.
func TestDropWorkedOut(t *testing.T) {
	l := []api.Item{
		dir("a"), dir("a/a"), file("a/a/a", "1"), file("a/a-", "2"), file("a/aa", "3"), file("a-", "4"), file("a.b", "5"), dir("aa"), file("aa/a", "6"), dir("b"), file("b/a", "7"),
	}
	paths := func(l []api.Item) string {
		var out []string
		for _, x := range l {
			out = append(out, x.Path)
		}
		return strings.Join(out, " ")
	}
	for _, c := range []struct {
		path, left string
		err        api.Errno
	}{
		{"a", "a- a.b aa aa/a b b/a", api.OK},
		{"a/a", "a a/a- a/aa a- a.b aa aa/a b b/a", api.OK},
		{"a/a/a", "a a/a a/a- a/aa a- a.b aa aa/a b b/a", api.OK},
		{"a-", "a a/a a/a/a a/a- a/aa a.b aa aa/a b b/a", api.OK},
		{"aa", "a a/a a/a/a a/a- a/aa a- a.b b b/a", api.OK},
		{"b", "a a/a a/a/a a/a- a/aa a- a.b aa aa/a", api.OK},
		{"b/a", "a a/a a/a/a a/a- a/aa a- a.b aa aa/a b", api.OK},
		{"", paths(l), api.ErrNone},
		{"a/", paths(l), api.ErrNone},
		{"/a", paths(l), api.ErrNone},
		{"a/a/", paths(l), api.ErrNone},
		{"a//a", paths(l), api.ErrNone},
		{"c", paths(l), api.ErrNone},
		{"b/a/a", paths(l), api.ErrNone},
		{"a\x00", paths(l), api.ErrNone},
	} {
		got, err := tree.Drop(l, c.path)
		if paths(got) != c.left || err != c.err {
			t.Errorf("Drop of %q = %s, %v", c.path, paths(got), err)
		}
	}
}

// TestWalk: P10.5, long ways of Put and Drop, against a map from paths to items.
func TestWalk(t *testing.T) {
	r := rand.New(rand.NewPCG(10, 5))
	names := []string{"a", "b", "a-", "c", "dd"}
	sizes := []int{0, 1, 10, 2000, 20000, 32768, 32769}
	anyPath := func() string {
		path := names[r.IntN(len(names))]
		for r.IntN(5) < 3 {
			path += "/" + names[r.IntN(len(names))]
		}
		return path
	}
	met := map[api.Errno]int{}
	for range 20 {
		var l []api.Item
		known := map[string]api.Item{}
		for range 800 {
			path := anyPath()
			if r.IntN(100) == 0 {
				more, err := tree.Drop(l, path)
				_, there := known[path]
				if (err == api.OK) != there || err != api.OK && err != api.ErrNone {
					t.Fatalf("Drop(%s, %q) = %v", short(l), path, err)
				}
				for other := range known {
					if other == path || strings.HasPrefix(other, path+"/") {
						delete(known, other)
					}
				}
				l = more
			} else {
				x := api.Item{Path: path, Dir: r.IntN(3) > 0}
				if !x.Dir {
					x.Exec, x.Data = r.IntN(2) == 0, bytes(sizes[r.IntN(len(sizes))])
				}
				_, why := slowPut(l, x)
				more, err := tree.Put(l, x)
				if err != why {
					t.Fatalf("Put(%s, %s) = %v, not %v", short(l), short([]api.Item{x}), err, why)
				}
				if err == api.OK {
					known[path] = x
				}
				met[err]++
				l = more
			}
			if len(l) != len(known) || !isFit(l) || !tree.Fit(l) || tree.Size(l) != total(l) {
				t.Fatalf("%d items are %s", len(known), short(l))
			}
			for path, x := range known {
				if got, there := tree.Find(l, path); !there || got != x {
					t.Fatalf("Find(%s, %q) = %s, %v", short(l), path, short([]api.Item{got}), there)
				}
			}
			holdsNames(t, l, anyPath())
		}
	}
	for _, err := range []api.Errno{api.OK, api.ErrName, api.ErrNone, api.ErrKind, api.ErrRange, api.ErrMany} {
		if met[err] == 0 {
			t.Errorf("%v was never met", err)
		}
	}
}

// TestNewMemory: 0.5, what is told shares no list with what was given, nor with what is told again, beside errors too.
func TestNewMemory(t *testing.T) {
	l := make([]api.Item, 0, 100)
	l = append(l, dir("a"), file("a/b", "x"), file("c", "y"), file("d", "z"))
	given := slices.Clone(l)
	calls := map[string]func() []api.Item{
		"Put of a new one":          func() []api.Item { m, _ := tree.Put(l, file("e", "")); return m },
		"Put of one ahead":          func() []api.Item { m, _ := tree.Put(l, file("A", "")); return m },
		"Put in another's place":    func() []api.Item { m, _ := tree.Put(l, file("c", "new")); return m },
		"Put of a directory again":  func() []api.Item { m, _ := tree.Put(l, dir("a")); return m },
		"Put that has an error":     func() []api.Item { m, _ := tree.Put(l, file("x/y", "")); return m },
		"Drop of a directory":       func() []api.Item { m, _ := tree.Drop(l, "a"); return m },
		"Drop of the last one":      func() []api.Item { m, _ := tree.Drop(l, "d"); return m },
		"Drop that has an error":    func() []api.Item { m, _ := tree.Drop(l, "x"); return m },
		"Drop that has a strange a": func() []api.Item { m, _ := tree.Drop(l, "a/"); return m },
	}
	for name, call := range calls {
		first, again := call(), call()
		whole := slices.Clone(again)
		for i := range first {
			first[i] = api.Item{Path: "other"}
		}
		_ = append(first, api.Item{Path: "more"})
		if !same(again, whole) {
			t.Errorf("%s tells one list twice", name)
		}
		if !same(l, given) || slices.ContainsFunc(l[:cap(l)], func(x api.Item) bool { return x.Path == "other" || x.Path == "more" }) {
			t.Errorf("%s tells the list that it was given", name)
		}
	}
	names, again := tree.Names(l, ""), tree.Names(l, "")
	names[0] = "other"
	if again[0] != "a" || l[0].Path != "a" {
		t.Error("Names tells one list twice")
	}
}

// unfit are lists of which nothing is promised but that calls end.
func unfit(r *rand.Rand) [][]api.Item {
	var odd []api.Item
	for _, path := range append(strange(), "a", "a/b", "b", "a/b/c") {
		odd = append(odd, forms(path)...)
	}
	lists := [][]api.Item{odd, {{}}, {{}, {}}, many(20000, 3), {file("a", bytes(1<<20))}, {file(bytes(1<<16), bytes(1<<16))}, slices.Repeat([]api.Item{dir("a")}, 20000)}
	for n := range 100 {
		var l []api.Item
		for range n {
			l = append(l, odd[r.IntN(len(odd))])
		}
		lists = append(lists, l)
	}
	return lists
}

// TestAny: 0.1, any arguments, up to the greatest: each call ends, and none panics; P10.1 of lists that may be any.
func TestAny(t *testing.T) {
	r := rand.New(rand.NewPCG(10, 6))
	done := make(chan bool)
	go func() {
		defer close(done)
		lists := unfit(r)
		for _, l := range lists {
			if tree.Fit(l) != isFit(l) {
				t.Errorf("Fit(%s) = %v", short(l), tree.Fit(l))
			}
			tree.Size(l)
			for _, path := range append(strange(), "a", "a/b") {
				tree.Find(l, path)
				tree.Drop(l, path)
				tree.Names(l, path)
				for _, x := range forms(path) {
					tree.Put(l, x)
				}
			}
			for _, other := range lists[:20] {
				if tree.Same(l, other) != same(l, other) {
					t.Errorf("Same(%s, %s) = %v", short(l), short(other), tree.Same(l, other))
				}
			}
		}
	}()
	select {
	case <-done:
	case <-time.After(60 * time.Second):
		t.Fatal("a call does not end")
	}
}
