package disk_test

import (
	"fmt"
	"math"
	"math/rand/v2"
	"slices"
	"strings"
	"testing"
	"time"
	"unsafe"

	"silo/api"
	"silo/disk"
)

// roomy is a disk whose lists have room behind what is in them.
func roomy() api.Disk {
	d := api.Disk{Files: make([]api.DFile, 0, 20), Fuse: 5}
	for _, name := range []string{"b", "d", "f"} {
		ops := make([]api.Op, 0, 20)
		d.Files = append(d.Files, file(name, "xyz", append(ops, op(0, "1"), op(1, "2"))...))
	}
	return d
}

// spoil changes all that a disk's lists hold, and what room they have.
func spoil(d api.Disk) {
	files := d.Files[:cap(d.Files)]
	for i := range files {
		ops := files[i].Ops[:cap(files[i].Ops)]
		for k := range ops {
			ops[k] = op(99, "spoilt")
		}
		files[i] = file("spoilt", "spoilt")
	}
}

// calls are all that tell a disk.
func calls() map[string]func(d api.Disk) api.Disk {
	all := map[string]func(d api.Disk) api.Disk{
		"Crash":                func(d api.Disk) api.Disk { return disk.Crash(d, []bool{true, false, true}) },
		"Crash, nothing kept":  func(d api.Disk) api.Disk { return disk.Crash(d, nil) },
		"an act without power": func(d api.Disk) api.Disk { d.Off, d.Fuse = true, -1; d, _ = disk.Sync(d, "b"); return d },
		"an act at the end":    func(d api.Disk) api.Disk { d.Fuse = 0; d, _ = disk.Sync(d, "b"); return d },
	}
	for i, a := range []act{
		writing("b", 0, "z"), writing("f", 0, ""), writing("a", 0, "z"), writing("c", 0, "z"), writing("g", 0, ""), writing("", 0, "z"), writing("b", -1, "z"), syncing("d"), syncing("x"),
		renaming("b", "g"), renaming("b", "d"), renaming("f", "a"), renaming("b", "b"), renaming("b", ""), renaming("x", "b"), removing("b"), removing("f"), removing("x"),
	} {
		all[fmt.Sprintf("%s %d", a.words, i)] = func(d api.Disk) api.Disk { d, _ = a.call(d); return d }
	}
	return all
}

// TestNewMemory: 0.5, what is told shares no list with what was given, nor with what is told again; what was given stays.
func TestNewMemory(t *testing.T) {
	for name, call := range calls() {
		d, untouched := roomy(), roomy()
		first, again := call(d), call(d)
		want := copied(again)
		spoil(first)
		if !same(again, want) {
			t.Errorf("%s tells one list twice", name)
		}
		if !same(d, untouched) {
			t.Errorf("%s tells a list that it was given", name)
		}
		for i, f := range d.Files[:cap(d.Files)] {
			if i >= 3 && f.Name != "" || i < 3 && f.Ops[:cap(f.Ops)][2] != (api.Op{}) {
				t.Errorf("%s fills the room behind what it was given", name)
			}
		}
		spoil(d)
		if !same(again, want) {
			t.Errorf("%s hangs on what it was given later", name)
		}
	}
}

// TestNewMemoryOfFiles: 0.5, no two files that are told share a list, as what is added to one shows.
func TestNewMemoryOfFiles(t *testing.T) {
	for name, call := range calls() {
		got := call(roomy())
		want := copied(got)
		for i := range got.Files {
			_ = append(got.Files[i].Ops, op(99, "spoilt"), op(99, "spoilt"))
		}
		if !same(got, want) {
			t.Errorf("%s tells files that share a list", name)
		}
	}
}

// TestTextsKept: what is kept of texts that are given is kept alone, without the greater ones of which they may be parts.
func TestTextsKept(t *testing.T) {
	great := strings.Repeat("abcdefghij", 100)
	isPart := func(s string) bool {
		at, from := uintptr(unsafe.Pointer(unsafe.StringData(s))), uintptr(unsafe.Pointer(unsafe.StringData(great)))
		return s != "" && at >= from && at < from+uintptr(len(great))
	}
	d, _ := disk.Write(on(), great[3:5], 0, great[:50])
	renamed, _ := disk.Rename(d, great[3:5], great[6:9])
	for _, f := range append(d.Files, renamed.Files...) {
		if isPart(f.Name) || isPart(f.Ops[0].Data) {
			t.Errorf("%s keeps a greater text", short(on(f)))
		}
	}
	if s, _ := disk.Read(on(file("a", great)), "a"); isPart(s) {
		t.Error("Read tells what it was given")
	}
}

// unfit are disks of which nothing is promised but that calls end.
func unfit(r *rand.Rand) []api.Disk {
	odd := []api.DFile{
		{}, file("a", ""), file("", "b", op(0, "c")), file("b", "", op(-1, "c")), file("a", "b", op(math.MinInt, "c"), op(0, "d")), file("c", "", op(math.MaxInt, "c")), file("/", "x", op(math.MaxInt-1, "abc")),
		file("d", "", op(1<<40, "c")), file("e", "x", op(5, ""), op(-5, "")), file("f", bytes(1<<20), op(1<<20, "y")), file("g", "", op(0, bytes(1<<20)), op(0, "z")), file("b", "", many(3000)...), file(bytes(1<<16), ""), file("z", "", op(1<<30, "y")),
	}
	l := []api.Disk{{}, {Off: true}, {Off: true, Fuse: 7}, {Fuse: math.MinInt}, {Fuse: math.MaxInt}, on(odd...), on(numbered(2000)...), on(slices.Repeat([]api.DFile{file("a", "x")}, 2000)...)}
	for range 60 {
		var d api.Disk
		for range r.IntN(20) {
			d.Files = append(d.Files, odd[r.IntN(len(odd))])
		}
		d.Off, d.Fuse = r.IntN(4) == 0, r.IntN(5)-2
		l = append(l, d)
	}
	return l
}

// TestAny: 0.1, any arguments: each call ends, and none panics; P15.1's Fit and Same of disks that may be any.
func TestAny(t *testing.T) {
	r := rand.New(rand.NewPCG(15, 1))
	done := make(chan bool)
	go func() {
		defer close(done)
		disks := unfit(r)
		for _, d := range disks {
			given := copied(d)
			if disk.Fit(d) && (len(d.Files) > mostFiles || d.Off && d.Fuse != -1) {
				t.Errorf("%s is fit", short(d))
			}
			for _, name := range []string{"", "a", "b", "c", "d", "e", "f", "g", "z", "/", "f100", bytes(1 << 20)} {
				disk.Read(d, name)
				disk.Sync(d, name)
				disk.Remove(d, name)
				disk.Rename(d, name, "a")
				disk.Rename(d, "a", name)
				for _, at := range []int{math.MinInt, -1, 0, mostBytes, math.MaxInt} {
					disk.Write(d, name, at, "")
					disk.Write(d, name, at, "x")
				}
				disk.Write(d, name, math.MaxInt, bytes(1<<20))
			}
			disk.Crash(d, nil)
			disk.Crash(d, slices.Repeat([]bool{true}, 5000))
			for _, other := range disks[:12] {
				if disk.Same(d, other) != same(d, other) {
					t.Errorf("Same(%s, %s) = %v", short(d), short(other), !same(d, other))
				}
			}
			if !same(d, given) {
				t.Errorf("%s was changed to %s", short(given), short(d))
			}
		}
	}()
	select {
	case <-done:
	case <-time.After(60 * time.Second):
		t.Fatal("a call does not end")
	}
}
