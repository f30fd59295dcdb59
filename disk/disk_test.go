package disk_test

import (
	"fmt"
	"math"
	"slices"
	"strings"
	"testing"

	"silo/api"
	"silo/disk"
)

// What the chapter names.
const (
	mostFiles = 8
	mostOps   = 200
	mostBytes = 262144
	mostFuse  = 1048576
)

func op(at int, s string) api.Op { return api.Op{At: at, Data: s} }

func file(name, data string, ops ...api.Op) api.DFile {
	return api.DFile{Name: name, Data: data, Ops: ops}
}

// on is a disk that is on, and whose power stays.
func on(files ...api.DFile) api.Disk { return api.Disk{Files: files, Fuse: -1} }

// off is a disk whose power is gone.
func off(files ...api.DFile) api.Disk { return api.Disk{Files: files, Off: true, Fuse: -1} }

// fused is a disk that has so many acts left.
func fused(fuse int, files ...api.DFile) api.Disk { return api.Disk{Files: files, Fuse: fuse} }

func zeros(n int) string { return strings.Repeat("\x00", n) }

func bytes(n int) string { return strings.Repeat("x", n) }

// many is n ops of a byte each.
func many(n int) []api.Op {
	var l []api.Op
	for i := range n {
		l = append(l, op(i%7, string(rune('a'+i%26))))
	}
	return l
}

// numbered is n files, rising.
func numbered(n int) []api.DFile {
	var l []api.DFile
	for i := range n {
		l = append(l, file(fmt.Sprintf("f%d", i), "", op(i, "y")))
	}
	return l
}

// short is a disk in words that can be read in a failure.
func short(d api.Disk) string {
	var out strings.Builder
	fmt.Fprintf(&out, "[off %v fuse %d", d.Off, d.Fuse)
	for _, f := range d.Files {
		fmt.Fprintf(&out, ", %.40q: %.20q/%d", f.Name, f.Data, len(f.Data))
		for i, x := range f.Ops {
			if i == 5 {
				fmt.Fprintf(&out, " and %d more", len(f.Ops)-i)
				break
			}
			fmt.Fprintf(&out, " %d:%.10q/%d", x.At, x.Data, len(x.Data))
		}
	}
	return out.String() + "]"
}

// copied is a disk that shares no list with another one.
func copied(d api.Disk) api.Disk {
	d.Files = slices.Clone(d.Files)
	for i := range d.Files {
		d.Files[i].Ops = slices.Clone(d.Files[i].Ops)
	}
	return d
}

// same holds two disks against each other, field by field.
func same(a, b api.Disk) bool {
	if a.Off != b.Off || a.Fuse != b.Fuse || len(a.Files) != len(b.Files) {
		return false
	}
	for i, f := range a.Files {
		g := b.Files[i]
		if f.Name != g.Name || f.Data != g.Data || len(f.Ops) != len(g.Ops) {
			return false
		}
		for k, x := range f.Ops {
			if x.At != g.Ops[k].At || x.Data != g.Ops[k].Data {
				return false
			}
		}
	}
	return true
}

// isName is what chapter 9 says a name is.
func isName(s string) bool {
	return len(s) >= 1 && len(s) <= 31 && s != "." && s != ".." && !strings.Contains(s, "/") && !strings.Contains(s, "\x00")
}

// reach is how many bytes a file has with all that is laid on.
func reach(data string, ops []api.Op) int {
	n := len(data)
	for _, x := range ops {
		n = max(n, x.At+len(x.Data))
	}
	return n
}

// laidOn is a text with ops laid on, place by place: what came last there, or the text's byte, or 0.
func laidOn(data string, ops []api.Op) string {
	out := make([]byte, reach(data, ops))
	for at := range out {
		if at < len(data) {
			out[at] = data[at]
		}
		for _, x := range slices.Backward(ops) {
			if at >= x.At && at < x.At+len(x.Data) {
				out[at] = x.Data[at-x.At]
				break
			}
		}
	}
	return string(out)
}

// isFit is what the chapter says of a disk.
func isFit(d api.Disk) bool {
	if len(d.Files) > mostFiles || d.Fuse < -1 || d.Fuse > mostFuse || d.Off && d.Fuse != -1 {
		return false
	}
	for i, f := range d.Files {
		if !isName(f.Name) || i > 0 && d.Files[i-1].Name >= f.Name || len(f.Ops) > mostOps || len(f.Data) > mostBytes {
			return false
		}
		for _, x := range f.Ops {
			if x.At < 0 || x.Data == "" || x.At > mostBytes || x.At+len(x.Data) > mostBytes {
				return false
			}
		}
		if reach(f.Data, f.Ops) > mostBytes {
			return false
		}
	}
	return true
}

// is is the file of a name; false: there is none.
func is(d api.Disk, name string) (api.DFile, bool) {
	for _, f := range d.Files {
		if f.Name == name {
			return f, true
		}
	}
	return api.DFile{}, false
}

// noNames are texts that are none.
func noNames() []string {
	return []string{"", ".", "..", "/", "a/b", "a/", "/a", "a\x00", "\x00", bytes(32), bytes(1 << 16)}
}

// bodies are files of a name: with what lasts and with what may be lost, little of each.
func bodies(name string) []api.DFile {
	var l []api.DFile
	few := []api.Op{op(0, "1"), op(1, "23"), op(4, "4")}
	for _, data := range []string{"", "xyz"} {
		l = append(l, file(name, data))
		for _, x := range few {
			l = append(l, file(name, data, x))
			for _, y := range few {
				l = append(l, file(name, data, x, y))
			}
		}
	}
	return l
}

// small are all disks that are on, of two such files at most.
func small() []api.Disk {
	all := []api.Disk{on()}
	for _, f := range bodies("b") {
		all = append(all, on(f))
	}
	for _, d := range slices.Clone(all) {
		for _, f := range bodies("d") {
			all = append(all, on(append(slices.Clone(d.Files), f)...))
		}
	}
	return all
}

// powers are a disk with its power gone, soon gone, and there to stay.
func powers(d api.Disk) []api.Disk {
	return []api.Disk{on(d.Files...), off(d.Files...), fused(0, d.Files...), fused(1, d.Files...), fused(mostFuse, d.Files...)}
}

// TestExample: the chapter's example.
func TestExample(t *testing.T) {
	d, err := disk.Write(on(), "f", 0, "ab")
	if err != api.OK {
		t.Fatalf("Write of ab = %v", err)
	}
	if d, err = disk.Sync(d, "f"); err != api.OK {
		t.Fatalf("Sync = %v", err)
	}
	if d, err = disk.Write(d, "f", 1, "c"); err != api.OK {
		t.Fatalf("Write of c = %v", err)
	}
	if s, there := disk.Read(d, "f"); s != "ac" || !there {
		t.Errorf("Read = %q, %v", s, there)
	}
	if s, there := disk.Read(disk.Crash(d, nil), "f"); s != "ab" || !there {
		t.Errorf("Read behind Crash = %q, %v", s, there)
	}
	if s, _ := disk.Read(disk.Crash(d, []bool{true}), "f"); s != "ac" {
		t.Errorf("Read behind Crash that keeps it = %q", s)
	}
}

// TestFit: P15.1, disks at each bound, and one beyond it.
func TestFit(t *testing.T) {
	for name, d := range map[string]api.Disk{
		"no file":                 on(),
		"no power":                off(),
		"no power, files":         off(file("a", "b", op(0, "c"))),
		"no act left":             fused(0),
		"one act left":            fused(1, file("a", "")),
		"the most acts left":      fused(mostFuse),
		"the most files":          on(numbered(8)...),
		"names that rise":         on(file("A", ""), file("a", ""), file("a-", ""), file("a.new", ""), file("aa", ""), file("\xff", "")),
		"names that begin alike":  on(file("a", ""), file("a\x01", "")),
		"the longest name":        on(file(bytes(31), "")),
		"a name of dots":          on(file("...", "")),
		"the most ops":            on(file("a", "", many(200)...)),
		"the most ops, each file": on(file("a", "", many(200)...), file("b", "", many(200)...)),
		"the most bytes":          on(file("a", bytes(mostBytes)), file("b", bytes(mostBytes))),
		"the most bytes, written": on(file("a", "", op(0, bytes(mostBytes)))),
		"the last byte":           on(file("a", "", op(mostBytes-1, "x"))),
		"most bytes on most":      on(file("a", bytes(mostBytes), op(0, bytes(mostBytes)), op(1, bytes(mostBytes-1)))),
	} {
		if !disk.Fit(d) || !isFit(d) {
			t.Errorf("%s: %s is not fit", name, short(d))
		}
	}
	for name, d := range map[string]api.Disk{
		"too many files":         on(numbered(9)...),
		"far too many":           on(numbered(1000)...),
		"names that fall":        on(file("b", ""), file("a", "")),
		"names that fall later":  on(file("a", ""), file("c", ""), file("b", "")),
		"a name twice":           on(file("a", ""), file("a", "")),
		"a name twice, at last":  on(file("a", ""), file("b", ""), file("b", "")),
		"too many ops":           on(file("a", "", many(201)...)),
		"too many ops, second":   on(file("a", ""), file("b", "", many(201)...)),
		"a place below 0":        on(file("a", "", op(-1, "b"))),
		"a place far below 0":    on(file("a", "", op(math.MinInt, "b"))),
		"nothing written":        on(file("a", "", op(0, ""))),
		"nothing written, later": on(file("a", "b", op(0, "c"), op(3, ""))),
		"too many bytes":         on(file("a", bytes(mostBytes+1))),
		"too many bytes, 2nd":    on(file("a", ""), file("b", bytes(mostBytes+1))),
		"too many written":       on(file("a", "", op(0, bytes(mostBytes+1)))),
		"too far":                on(file("a", "", op(mostBytes, "b"))),
		"too far by a byte":      on(file("a", "", op(mostBytes-1, "bc"))),
		"too far, then not":      on(file("a", "", op(mostBytes, "b"), op(0, "c"))),
		"far too far":            on(file("a", "", op(math.MaxInt, "b"))),
		"too far for numbers":    on(file("a", "", op(math.MaxInt-1, "bcd"))),
		"too many acts left":     fused(mostFuse + 1),
		"a fuse below -1":        fused(-2),
		"a fuse far below":       fused(math.MinInt),
		"no power, no act":       {Off: true},
		"no power, an act":       {Off: true, Fuse: 1},
		"no power, fuse below":   {Off: true, Fuse: -2},
	} {
		if disk.Fit(d) || isFit(d) {
			t.Errorf("%s: %s is fit", name, short(d))
		}
	}
	for _, name := range noNames() {
		for _, d := range []api.Disk{on(file(name, "")), on(file("\x00", ""), file(name, "")), on(file(name, ""), file("y", ""))} {
			if disk.Fit(d) {
				t.Errorf("%s is fit", short(d))
			}
		}
	}
}

// TestFitSmall: P15.1, all small disks, in all orders of two files, with fuses and power of all kinds.
func TestFitSmall(t *testing.T) {
	for _, d := range small() {
		turned := copied(d)
		slices.Reverse(turned.Files)
		for _, d := range []api.Disk{d, turned} {
			for _, fuse := range []int{-2, -1, 0, 1, mostFuse, mostFuse + 1} {
				for _, isOff := range []bool{false, true} {
					d.Fuse, d.Off = fuse, isOff
					if disk.Fit(d) != isFit(d) {
						t.Fatalf("Fit(%s) = %v", short(d), !isFit(d))
					}
				}
			}
		}
	}
}

// TestSame: P15.1, disks that are unlike by one thing alone, and such as are alike.
func TestSame(t *testing.T) {
	l := []api.Disk{
		{}, on(), off(), fused(0, file("a", "")), fused(1), on(file("a", "")), on(file("b", "")), on(file("a", "b")), on(file("", "")),
		on(file("a", "", op(0, "b"))), on(file("a", "", op(1, "b"))), on(file("a", "", op(0, "c"))), on(file("a", "", op(0, ""))),
		on(file("a", "", op(0, "b"), op(0, "b"))), on(file("a", "", op(0, "b"), op(1, "b"))), on(file("a", "", op(1, "b"), op(0, "b"))),
		on(file("a", ""), file("b", "")), on(file("b", ""), file("a", "")), on(file("a", ""), file("a", "")), on(file("a", ""), file("b", "c")),
		on(file("a", ""), file("b", "", op(0, "c"))), on(file("a", "", op(0, "c")), file("b", "")), off(file("a", "")), off(file("a", "", op(0, "b"))),
	}
	for i, a := range l {
		for k, b := range l {
			if got := disk.Same(a, copied(b)); got != (i == k) || got != same(a, b) {
				t.Errorf("Same(%s, %s) = %v", short(a), short(b), got)
			}
		}
	}
	none := api.Disk{Files: []api.DFile{}, Fuse: -1}
	if !disk.Same(on(), none) || !disk.Same(none, on()) {
		t.Error("an empty list of files is not none")
	}
	bare := on(api.DFile{Name: "a", Ops: []api.Op{}})
	if !disk.Same(on(file("a", "")), bare) || !disk.Same(bare, on(api.DFile{Name: "a"})) {
		t.Error("an empty list of ops is not none")
	}
}

// TestRead: P15.1, bytes laid on bytes, as told by hand.
func TestRead(t *testing.T) {
	for _, c := range []struct {
		data string
		ops  []api.Op
		want string
	}{
		{"", nil, ""},
		{"abc", nil, "abc"},
		{"", []api.Op{op(0, "x")}, "x"},
		{"", []api.Op{op(3, "x")}, "\x00\x00\x00x"},
		{"abc", []api.Op{op(0, "x")}, "xbc"},
		{"abc", []api.Op{op(1, "x")}, "axc"},
		{"abc", []api.Op{op(2, "x")}, "abx"},
		{"abc", []api.Op{op(3, "x")}, "abcx"},
		{"abc", []api.Op{op(4, "x")}, "abc\x00x"},
		{"abc", []api.Op{op(6, "xy")}, "abc\x00\x00\x00xy"},
		{"abc", []api.Op{op(2, "xyz")}, "abxyz"},
		{"abc", []api.Op{op(0, "wxyz")}, "wxyz"},
		{"abc", []api.Op{op(0, "1"), op(0, "2"), op(0, "3")}, "3bc"},
		{"abc", []api.Op{op(0, "12"), op(1, "34")}, "134"},
		{"abc", []api.Op{op(1, "34"), op(0, "12")}, "124"},
		{"abc", []api.Op{op(5, "1"), op(3, "2")}, "abc2\x001"},
		{"abc", []api.Op{op(1, "\x00\x00")}, "a\x00\x00"},
		{"", []api.Op{op(2, "\xff\x00"), op(1, "ä")}, "\x00\xc3\xa4\x00"},
	} {
		d := on(file("a", "other"), file("b", c.data, c.ops...), file("c", "", op(0, "others")))
		for _, d := range powers(d) {
			if got, there := disk.Read(d, "b"); got != c.want || !there {
				t.Errorf("Read(%s, b) = %q, %v, not %q", short(d), got, there, c.want)
			}
		}
		if got := laidOn(c.data, c.ops); got != c.want {
			t.Errorf("the tests' own words lay %q", got)
		}
	}
}

// TestReadBounds: P15.1, the most bytes and the most ops.
func TestReadBounds(t *testing.T) {
	for _, f := range []api.DFile{
		file("a", bytes(mostBytes)), file("a", "", op(mostBytes-1, "y")), file("a", bytes(mostBytes), op(0, strings.Repeat("y", mostBytes))),
		file("a", "abc", op(mostBytes-2, "de"), op(1, "f")), file("a", "abcdefghij", many(200)...),
	} {
		if got, there := disk.Read(on(f), "a"); got != laidOn(f.Data, f.Ops) || !there {
			t.Errorf("Read(%s) = %.20q/%d, %v", short(on(f)), got, len(got), there)
		}
	}
}

// TestReadNames: P15.1, files that are there, among others, and such as are not.
func TestReadNames(t *testing.T) {
	names := []string{"A", "a", "a-", "a.new", "aa", "b", "log", "\xff"}
	for n := range len(names) + 1 {
		var files []api.DFile
		for i, name := range names[:n] {
			files = append(files, file(name, bytes(i)))
		}
		for _, d := range powers(on(files...)) {
			for i, name := range names {
				got, there := disk.Read(d, name)
				if there != (i < n) || there && got != bytes(i) || !there && got != "" {
					t.Errorf("Read(%s, %q) = %q, %v", short(d), name, got, there)
				}
			}
			for _, name := range append(noNames(), "a.", "B", "ab", "lo", "logs", "LOG") {
				if got, there := disk.Read(d, name); got != "" || there {
					t.Errorf("Read(%s, %.40q) = %q, %v", short(d), name, got, there)
				}
			}
		}
	}
}

// TestReadSmall: P15.1, all small disks.
func TestReadSmall(t *testing.T) {
	for _, d := range small() {
		for _, name := range []string{"a", "b", "c", "d", "e", ""} {
			f, want := is(d, name)
			if got, there := disk.Read(d, name); got != laidOn(f.Data, f.Ops) || there != want {
				t.Fatalf("Read(%s, %q) = %q, %v", short(d), name, got, there)
			}
		}
	}
}
