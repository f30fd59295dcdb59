package dag

import (
	"slices"
	"strings"
	"testing"

	"silo/api"
)

// TestOrder: the chapter's order in which objects count: items by their paths, what is below a directory ahead of it, a file's pieces ahead of it, the topmost one last.
func TestOrder(t *testing.T) {
	l := []api.Item{
		{Path: "a", Dir: true}, {Path: "a/b", Data: "abcdefghij"}, {Path: "a/c", Dir: true}, {Path: "a/c/d", Data: "x"}, {Path: "a-", Data: "abcde"}, {Path: "b", Dir: true},
	}
	b := &builder{items: items{l}, params: api.Params{Min: 2, Avg: 4, Max: 8}}
	top := b.dir(topmost)
	var got []string
	for _, x := range b.built {
		if x.Raw[0] == api.NdPiece {
			got = append(got, x.Raw[1:])
			continue
		}
		// A file's number of parts, a directory's number of entries.
		got = append(got, map[byte]string{api.NdFile: "file", api.NdDir: "dir"}[x.Raw[0]]+string('0'+rune(x.Raw[1])))
	}
	want := "abcde fghij file2 x file1 dir1 dir2 abcde file1 dir0 dir3"
	if strings.Join(got, " ") != want || b.built[len(b.built)-1].Key != top || len(b.rest) > 0 {
		t.Errorf("built is %q, and left %v", got, b.rest)
	}
}

// TestFirstCounts: P12.1, of objects of one key the first one counts.
func TestFirstCounts(t *testing.T) {
	var o objects
	for i, key := range strings.Split("c a b c a a d b", " ") {
		o.built = append(o.built, api.Object{Key: key, Raw: string('0' + rune(i))})
	}
	// So many that sorting them is not done by inserting alone.
	for i := range 1000 {
		o.built = append(o.built, api.Object{Key: string('a' + rune(i*7%6)), Raw: "later"})
	}
	whole := slices.Clone(o.built)
	var got []string
	for _, x := range o.byKey() {
		got = append(got, x.Key+x.Raw)
	}
	if strings.Join(got, " ") != "a1 b2 c0 d6 elater flater" || !slices.Equal(o.built, whole) {
		t.Errorf("by their keys they are %q", got)
	}
}

// TestInside: what the iterator hands out is gone, what comes behind is left.
func TestInside(t *testing.T) {
	waiting := &items{[]api.Item{{Path: "a", Dir: true}, {Path: "b"}, {Path: "b/c"}, {Path: "d"}}}
	for x := range waiting.inside("") {
		if x.Path != "a" {
			t.Errorf("handed out is %q", x.Path)
		}
		break
	}
	for x := range waiting.inside("") {
		if x.Path != "b" {
			t.Errorf("handed out is %q", x.Path)
		}
	}
	if len(waiting.rest) != 2 || waiting.rest[0].Path != "b/c" {
		t.Errorf("left is %v", waiting.rest)
	}
}
