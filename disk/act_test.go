package disk_test

import (
	"math"
	"slices"
	"strings"
	"testing"

	"silo/api"
	"silo/disk"
)

// act is a call that changes a disk, in words, and as the chapter words what it does: what is wrong with it, and what is behind it.
type act struct {
	words string
	call  func(d api.Disk) (api.Disk, api.Errno)
	wrong func(d api.Disk) api.Errno
	after func(files []api.DFile) []api.DFile
}

// without is files without the one of a name.
func without(files []api.DFile, name string) []api.DFile {
	var out []api.DFile
	for _, f := range files {
		if f.Name != name {
			out = append(out, f)
		}
	}
	return out
}

// with is files with another one, sorted anew.
func with(files []api.DFile, f api.DFile) []api.DFile {
	out := append(without(files, f.Name), f)
	slices.SortFunc(out, func(a, b api.DFile) int { return strings.Compare(a.Name, b.Name) })
	return out
}

func isNone(d api.Disk, name string) api.Errno {
	if _, there := is(d, name); !there {
		return api.ErrNone
	}
	return api.OK
}

func writing(name string, at int, s string) act {
	return act{
		words: "Write",
		call:  func(d api.Disk) (api.Disk, api.Errno) { return disk.Write(d, name, at, s) },
		wrong: func(d api.Disk) api.Errno {
			f, there := is(d, name)
			if !isName(name) {
				return api.ErrName
			}
			if at < 0 || at > mostBytes || at+len(s) > mostBytes {
				return api.ErrRange
			}
			if !there && len(d.Files) == mostFiles || len(f.Ops) == mostOps && s != "" {
				return api.ErrMany
			}
			return api.OK
		},
		after: func(files []api.DFile) []api.DFile {
			f, _ := is(on(files...), name)
			f.Name = name
			f.Ops = slices.Clone(f.Ops)
			if s != "" {
				f.Ops = append(f.Ops, op(at, s))
			}
			return with(files, f)
		},
	}
}

func syncing(name string) act {
	return act{
		words: "Sync",
		call:  func(d api.Disk) (api.Disk, api.Errno) { return disk.Sync(d, name) },
		wrong: func(d api.Disk) api.Errno { return isNone(d, name) },
		after: func(files []api.DFile) []api.DFile {
			f, _ := is(on(files...), name)
			return with(files, file(name, laidOn(f.Data, f.Ops)))
		},
	}
}

func renaming(from, to string) act {
	return act{
		words: "Rename",
		call:  func(d api.Disk) (api.Disk, api.Errno) { return disk.Rename(d, from, to) },
		wrong: func(d api.Disk) api.Errno {
			if !isName(to) {
				return api.ErrName
			}
			return isNone(d, from)
		},
		after: func(files []api.DFile) []api.DFile {
			f, _ := is(on(files...), from)
			f.Name = to
			return with(without(files, from), f)
		},
	}
}

func removing(name string) act {
	return act{
		words: "Remove",
		call:  func(d api.Disk) (api.Disk, api.Errno) { return disk.Remove(d, name) },
		wrong: func(d api.Disk) api.Errno { return isNone(d, name) },
		after: func(files []api.DFile) []api.DFile { return without(files, name) },
	}
}

// holds holds an act against the chapter, what it was given against what that was, and tells the disk behind it.
func (a act) holds(t *testing.T, d api.Disk) api.Disk {
	t.Helper()
	given, want, why := copied(d), copied(d), api.OK
	switch {
	case d.Off:
		why = api.ErrPower
	case a.wrong(d) != api.OK:
		why = a.wrong(d)
	case d.Fuse == 0:
		want.Off, want.Fuse, why = true, -1, api.ErrPower
	default:
		want.Fuse = max(d.Fuse-1, -1)
		want.Files = a.after(want.Files)
	}
	got, err := a.call(d)
	if err != why || !same(got, want) {
		t.Fatalf("%s of %s = %s, %v, not %s, %v", a.words, short(given), short(got), err, short(want), why)
	}
	if !same(d, given) {
		t.Fatalf("%s changed %s to %s", a.words, short(given), short(d))
	}
	if !disk.Fit(got) || !isFit(got) {
		t.Fatalf("%s of %s = %s, which is not fit", a.words, short(d), short(got))
	}
	return got
}

// acts are all of a few kinds, at names that small disks have, lie beside theirs, or are none.
func acts() []act {
	var l []act
	for _, name := range []string{"a", "b", "c", "d", "e", "", "..", "b/", bytes(32)} {
		l = append(l, syncing(name), removing(name))
		for _, to := range []string{"a", "b", "c", "d", "e", "", ".", bytes(31), bytes(32)} {
			l = append(l, renaming(name, to))
		}
		for _, at := range []int{math.MinInt, -1, 0, 1, 5, mostBytes - 1, mostBytes, mostBytes + 1, math.MaxInt} {
			l = append(l, writing(name, at, ""), writing(name, at, "q"), writing(name, at, "rst"))
		}
	}
	return l
}

// TestActsSmall: P15.2 to P15.4 and P15.7, all such acts of all small disks, with power of all kinds.
func TestActsSmall(t *testing.T) {
	l := acts()
	for _, d := range small() {
		for _, d := range powers(d) {
			for _, a := range l {
				a.holds(t, d)
			}
		}
	}
}

// TestWriteBounds: P15.2, at the bounds of files, ops and bytes, and one beyond them.
func TestWriteBounds(t *testing.T) {
	full := on(numbered(8)...)
	used := on(file("a", "", many(200)...), file("b", "", many(199)...), file("c", "xyz"))
	both := on(append(numbered(7), file("g", "", many(200)...))...)
	for _, c := range []struct {
		d    api.Disk
		name string
		at   int
		s    string
		err  api.Errno
	}{
		{on(), "a", 0, "", api.OK},
		{on(), "a", mostBytes, "", api.OK},
		{on(), "a", mostBytes + 1, "", api.ErrRange},
		{on(), "a", 0, bytes(mostBytes), api.OK},
		{on(), "a", 1, bytes(mostBytes), api.ErrRange},
		{on(), "a", 0, bytes(mostBytes + 1), api.ErrRange},
		{on(), "a", 0, bytes(1 << 20), api.ErrRange},
		{on(), "a", -1, bytes(1 << 20), api.ErrRange},
		{on(), "a", -1, "", api.ErrRange},
		{on(), "a", -5, "abcde", api.ErrRange},
		{on(), "a", mostBytes - 1, "x", api.OK},
		{on(), "a", mostBytes - 1, "xy", api.ErrRange},
		{on(), "a", math.MaxInt, "x", api.ErrRange},
		{on(), "a", math.MaxInt - 5, bytes(1 << 20), api.ErrRange},
		{on(), "a", math.MinInt, "", api.ErrRange},
		{on(), bytes(31), 0, "x", api.OK},
		{on(), bytes(32), 0, "x", api.ErrName},
		{full, "a", 0, "x", api.ErrMany},
		{full, "a", 0, "", api.ErrMany},
		{full, "f44", 0, "", api.ErrMany},
		{full, "f4", 0, "", api.OK},
		{full, "f4", 0, "x", api.OK},
		{full, "z", mostBytes, "x", api.ErrRange},
		{full, "z/", mostBytes, "x", api.ErrName},
		{on(numbered(7)...), "a", 0, "x", api.OK},
		{on(numbered(7)...), "z", 0, "", api.OK},
		{used, "a", 0, "x", api.ErrMany},
		{used, "a", 0, "", api.OK},
		{used, "a", mostBytes, "x", api.ErrRange},
		{used, "b", 0, "x", api.OK},
		{used, "c", 0, "x", api.OK},
		{used, "d", 0, "x", api.OK},
		{both, "g", 0, "x", api.ErrMany},
		{both, "g", 0, "", api.OK},
		{both, "f0", 0, "x", api.OK},
		{both, "h", 0, "x", api.ErrMany},
		{fused(0, numbered(8)...), "a", 0, "x", api.ErrMany},
		{fused(0, numbered(8)...), "f0", 0, "x", api.ErrPower},
		{off(numbered(8)...), "a/", -1, "x", api.ErrPower},
	} {
		if _, err := disk.Write(c.d, c.name, c.at, c.s); err != c.err {
			t.Errorf("Write(%s, %.40q, %d, %.10q/%d) = %v, not %v", short(c.d), c.name, c.at, c.s, len(c.s), err, c.err)
		}
		writing(c.name, c.at, c.s).holds(t, c.d)
	}
}

// TestWriteWorkedOut: P15.2, what is behind some writes, as told by hand.
func TestWriteWorkedOut(t *testing.T) {
	d := on(file("b", "xyz", op(1, "1")))
	steps := []struct {
		name string
		at   int
		s    string
		want api.Disk
	}{
		{"a", 7, "", on(file("a", ""), file("b", "xyz", op(1, "1")))},
		{"c", 2, "q", on(file("a", ""), file("b", "xyz", op(1, "1")), file("c", "", op(2, "q")))},
		{"b", 0, "", on(file("a", ""), file("b", "xyz", op(1, "1")), file("c", "", op(2, "q")))},
		{"b", 0, "22", on(file("a", ""), file("b", "xyz", op(1, "1"), op(0, "22")), file("c", "", op(2, "q")))},
		{"a", 0, "\x00", on(file("a", "", op(0, "\x00")), file("b", "xyz", op(1, "1"), op(0, "22")), file("c", "", op(2, "q")))},
	}
	for _, c := range steps {
		got, err := disk.Write(d, c.name, c.at, c.s)
		if err != api.OK || !same(got, c.want) {
			t.Fatalf("Write(%s, %q, %d, %q) = %s, %v", short(d), c.name, c.at, c.s, short(got), err)
		}
		d = got
	}
	for name, want := range map[string]string{"a": "\x00", "b": "22z", "c": "\x00\x00q"} {
		if got, there := disk.Read(d, name); got != want || !there {
			t.Errorf("Read(%s, %q) = %q, %v", short(d), name, got, there)
		}
	}
}

// TestSyncBounds: P15.3, the most that may be lost, and the most bytes.
func TestSyncBounds(t *testing.T) {
	d := on(file("a", "abc", many(200)...), file("b", "", op(mostBytes-1, "x")), file("c", bytes(mostBytes), op(0, "y"), op(mostBytes-1, "z")), file("d", ""))
	for _, name := range []string{"a", "b", "c", "d", "e", "", "a/b"} {
		for _, d := range powers(d) {
			syncing(name).holds(t, d)
		}
	}
	got, err := disk.Sync(on(file("b", "xyz", op(5, "1"), op(1, "23"))), "b")
	if err != api.OK || !same(got, on(file("b", "x23\x00\x001"))) {
		t.Errorf("Sync = %s, %v", short(got), err)
	}
}

// TestRenameWorkedOut: P15.4, files that go to each place, and onto each other and themselves.
func TestRenameWorkedOut(t *testing.T) {
	b, d, f := file("b", "1", op(0, "2")), file("d", "3"), file("f", "", op(4, "5"))
	named := func(f api.DFile, name string) api.DFile {
		f.Name = name
		return f
	}
	start := on(b, d, f)
	for _, c := range []struct {
		from, to string
		err      api.Errno
		want     api.Disk
	}{
		{"b", "a", api.OK, on(named(b, "a"), d, f)},
		{"b", "b", api.OK, start},
		{"b", "c", api.OK, on(named(b, "c"), d, f)},
		{"b", "d", api.OK, on(named(b, "d"), f)},
		{"b", "e", api.OK, on(d, named(b, "e"), f)},
		{"b", "f", api.OK, on(d, named(b, "f"))},
		{"b", "g", api.OK, on(d, f, named(b, "g"))},
		{"d", "a", api.OK, on(named(d, "a"), b, f)},
		{"d", "b", api.OK, on(named(d, "b"), f)},
		{"d", "d", api.OK, start},
		{"d", "f", api.OK, on(b, named(d, "f"))},
		{"d", "z", api.OK, on(b, f, named(d, "z"))},
		{"f", "a", api.OK, on(named(f, "a"), b, d)},
		{"f", "b", api.OK, on(named(f, "b"), d)},
		{"f", "f", api.OK, start},
		{"f", bytes(31), api.OK, on(b, d, named(f, bytes(31)))},
		{"f", bytes(32), api.ErrName, start},
		{"b", "", api.ErrName, start},
		{"b", "..", api.ErrName, start},
		{"x", "a/b", api.ErrName, start},
		{"x", "b", api.ErrNone, start},
		{"x", "x", api.ErrNone, start},
		{"", "b", api.ErrNone, start},
		{"", "", api.ErrName, start},
		{"b/", "b", api.ErrNone, start},
	} {
		if got, err := disk.Rename(start, c.from, c.to); err != c.err || !same(got, c.want) {
			t.Errorf("Rename(%s, %q, %q) = %s, %v", short(start), c.from, c.to, short(got), err)
		}
		renaming(c.from, c.to).holds(t, start)
	}
}

// TestFullDisk: P15.4 of a disk that has as many files as may be: names change, and room comes behind what goes.
func TestFullDisk(t *testing.T) {
	d := on(numbered(8)...)
	for _, to := range []string{"a", "z", "f3", "f44", "f7"} {
		for _, from := range []string{"f0", "f3", "f7"} {
			renaming(from, to).holds(t, d)
		}
	}
	for _, f := range d.Files {
		fewer := removing(f.Name).holds(t, d)
		writing("new", 0, "x").holds(t, fewer)
	}
	fewer := renaming("f0", "f1").holds(t, d)
	if got := writing("f0", 0, "x").holds(t, fewer); len(got.Files) != 8 {
		t.Errorf("there are %d files", len(got.Files))
	}
}

// TestPower: what an act is, as told by hand: nothing is done without power, nor when it goes, and each act that is done is one less.
func TestPower(t *testing.T) {
	f := file("b", "1", op(0, "2"))
	for _, a := range []act{writing("a", 0, "x"), writing("b", 1, ""), writing("c", 0, "y"), syncing("b"), renaming("b", "c"), renaming("b", "b"), removing("b")} {
		done := a.after([]api.DFile{f})
		for _, c := range []struct {
			d, want api.Disk
			err     api.Errno
		}{
			{off(f), off(f), api.ErrPower},
			{fused(0, f), off(f), api.ErrPower},
			{fused(1, f), fused(0, done...), api.OK},
			{fused(2, f), fused(1, done...), api.OK},
			{fused(mostFuse, f), fused(mostFuse-1, done...), api.OK},
			{on(f), on(done...), api.OK},
		} {
			if got, err := a.call(c.d); err != c.err || !same(got, c.want) {
				t.Errorf("%s of %s = %s, %v, not %s, %v", a.words, short(c.d), short(got), err, short(c.want), c.err)
			}
		}
	}
}

// TestPowerAndWrong: power that is gone is told ahead of what is wrong, and that ahead of power that goes; what is wrong costs no act.
func TestPowerAndWrong(t *testing.T) {
	f := file("b", "1", op(0, "2"))
	for _, c := range []struct {
		a   act
		err api.Errno
	}{
		{writing("", 0, "x"), api.ErrName}, {writing("a", -1, "x"), api.ErrRange}, {syncing("x"), api.ErrNone},
		{renaming("b", "/"), api.ErrName}, {renaming("x", "b"), api.ErrNone}, {removing("x"), api.ErrNone},
	} {
		if got, err := c.a.call(off(f)); err != api.ErrPower || !same(got, off(f)) {
			t.Errorf("%s without power = %s, %v", c.a.words, short(got), err)
		}
		for _, d := range []api.Disk{on(f), fused(0, f), fused(1, f), fused(mostFuse, f)} {
			if got, err := c.a.call(d); err != c.err || !same(got, d) {
				t.Errorf("%s of %s = %s, %v, not %v", c.a.words, short(d), short(got), err, c.err)
			}
		}
	}
}

// TestFuse: of acts one behind the other just as many are done as are left; from then on nothing is, but reading.
func TestFuse(t *testing.T) {
	way := []act{writing("b", 0, "ab"), syncing("b"), writing("x", 3, "c"), removing("x"), writing("b", 1, "d"), renaming("b", "c"), writing("b", 0, "e"), syncing("c"), syncing("b")}
	for fuse := range len(way) + 1 {
		d, done := fused(fuse), on()
		for i, a := range way {
			d, _ = a.call(d)
			removing("nothing").holds(t, d)
			if i < fuse {
				done, _ = a.call(done)
			}
			if d.Off != (i >= fuse) || !same(on(d.Files...), done) {
				t.Fatalf("behind %d acts of %d there is %s, not %s", i+1, fuse, short(d), short(done))
			}
		}
		for _, f := range done.Files {
			if got, there := disk.Read(d, f.Name); got != laidOn(f.Data, f.Ops) || !there {
				t.Errorf("Read(%s, %q) = %q, %v", short(d), f.Name, got, there)
			}
		}
	}
}
