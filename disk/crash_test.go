package disk_test

import (
	"fmt"
	"math/rand/v2"
	"slices"
	"strings"
	"testing"

	"silo/api"
	"silo/disk"
)

// slowCrash is P15.5 as the chapter words it.
func slowCrash(d api.Disk, keep []bool) api.Disk {
	var out []api.DFile
	place := 0
	for _, f := range d.Files {
		var kept []api.Op
		for _, x := range f.Ops {
			if place < len(keep) && keep[place] {
				kept = append(kept, x)
			}
			place++
		}
		out = append(out, file(f.Name, laidOn(f.Data, kept)))
	}
	return on(out...)
}

// holdsCrash holds Crash against the chapter, and what it was given against what that was.
func holdsCrash(t *testing.T, d api.Disk, keep []bool) api.Disk {
	t.Helper()
	given, kept := copied(d), slices.Clone(keep)
	got, want := disk.Crash(d, keep), slowCrash(d, keep)
	if !same(got, want) {
		t.Fatalf("Crash(%s, %v) = %s, not %s", short(d), keep, short(got), short(want))
	}
	if !same(d, given) || !slices.Equal(keep, kept) {
		t.Fatalf("Crash changed %s, %v to %s, %v", short(given), kept, short(d), keep)
	}
	if !disk.Fit(got) || !isFit(got) {
		t.Fatalf("Crash(%s, %v) = %s, which is not fit", short(d), keep, short(got))
	}
	return got
}

// keeps are all lists of up to n bools.
func keeps(n int) [][]bool {
	all := [][]bool{nil}
	last := all
	for range n {
		var longer [][]bool
		for _, l := range last {
			longer = append(longer, append(slices.Clone(l), false), append(slices.Clone(l), true))
		}
		all = append(all, longer...)
		last = longer
	}
	return all
}

// pending is how many ops a disk has.
func pending(d api.Disk) int {
	n := 0
	for _, f := range d.Files {
		n += len(f.Ops)
	}
	return n
}

// anyKeep is n bools of all kinds.
func anyKeep(r *rand.Rand, n int) []bool {
	l := make([]bool, n)
	for i := range l {
		l[i] = r.IntN(2) == 0
	}
	return l
}

// TestCrashSmall: P15.5, all small disks, and all that may be kept of them, of lists that end early, or late.
func TestCrashSmall(t *testing.T) {
	for _, d := range small() {
		for _, keep := range keeps(pending(d) + 1) {
			holdsCrash(t, d, keep)
		}
		for _, d := range powers(d) {
			for _, keep := range [][]bool{nil, {}, {true}, {true, true, true, true, true, true}} {
				holdsCrash(t, d, keep)
			}
		}
	}
}

// TestCrashWorkedOut: P15.5, what is behind a loss of power, as told by hand: places go on from file to file.
func TestCrashWorkedOut(t *testing.T) {
	d := off(file("a", "abc", op(0, "1"), op(1, "2")), file("b", ""), file("c", "", op(2, "3")), file("d", "x"), file("e", "", op(0, "45"), op(1, "6"), op(3, "7")))
	for _, c := range []struct {
		keep string
		want []string
	}{
		{"", []string{"abc", "", "", "x", ""}},
		{"0000000", []string{"abc", "", "", "x", ""}},
		{"1", []string{"1bc", "", "", "x", ""}},
		{"01", []string{"a2c", "", "", "x", ""}},
		{"11", []string{"12c", "", "", "x", ""}},
		{"001", []string{"abc", "", "\x00\x003", "x", ""}},
		{"0001", []string{"abc", "", "", "x", "45"}},
		{"00001", []string{"abc", "", "", "x", "\x006"}},
		{"000001", []string{"abc", "", "", "x", "\x00\x00\x007"}},
		{"000101", []string{"abc", "", "", "x", "45\x007"}},
		{"111111", []string{"12c", "", "\x00\x003", "x", "46\x007"}},
		{"1111111111", []string{"12c", "", "\x00\x003", "x", "46\x007"}},
		{"0000001111", []string{"abc", "", "", "x", ""}},
	} {
		var keep []bool
		for _, bit := range c.keep {
			keep = append(keep, bit == '1')
		}
		var want []api.DFile
		for i, data := range c.want {
			want = append(want, file(d.Files[i].Name, data))
		}
		if got := disk.Crash(d, keep); !same(got, on(want...)) {
			t.Errorf("Crash(%s, %s) = %s, not %s", short(d), c.keep, short(got), short(on(want...)))
		}
	}
}

// TestCrashBounds: P15.5, as many files and ops as may be, and as many bytes.
func TestCrashBounds(t *testing.T) {
	r := rand.New(rand.NewPCG(15, 5))
	var files []api.DFile
	for i := range mostFiles {
		files = append(files, file(fmt.Sprintf("f%d", i), "abcdefgh", many(mostOps)...))
	}
	d := on(files...)
	for range 20 {
		holdsCrash(t, d, anyKeep(r, r.IntN(2000)))
	}
	for _, n := range []int{0, 199, 200, 201, 1599, 1600, 1601, 1 << 16} {
		holdsCrash(t, d, slices.Repeat([]bool{true}, n))
	}
	for i := range mostFiles * mostOps {
		keep := make([]bool, i+1)
		keep[i] = true
		if got := disk.Crash(d, keep); i%37 == 0 && !same(got, slowCrash(d, keep)) {
			t.Fatalf("Crash that keeps op %d alone = %s", i, short(got))
		}
	}
	holdsCrash(t, on(file("a", bytes(mostBytes), op(0, "y")), file("b", "", op(mostBytes-1, "z"))), []bool{true, true})
	holdsCrash(t, on(file("a", "", op(mostBytes-1, "z"), op(0, "y"))), []bool{false, true})
}

// TestCrashAgain: P15.5, a second loss of power finds nothing that may be lost.
func TestCrashAgain(t *testing.T) {
	for _, d := range small() {
		once := disk.Crash(d, []bool{true, false, true})
		for _, keep := range keeps(3) {
			if got := disk.Crash(once, keep); !same(got, once) {
				t.Fatalf("Crash(%s, %v) = %s", short(once), keep, short(got))
			}
		}
	}
}

// TestWrittenIsRead: P15.6, what was written is read, and all else of the file as it was, with zeros between.
func TestWrittenIsRead(t *testing.T) {
	for _, d := range small() {
		for _, name := range []string{"a", "b", "d"} {
			old, _ := disk.Read(d, name)
			for _, at := range []int{0, 1, 3, 9} {
				for _, s := range []string{"q", "\x00\xff", "rstuv"} {
					more, err := disk.Write(d, name, at, s)
					got, there := disk.Read(more, name)
					padded := old + zeros(max(0, at-len(old)))
					want := padded[:at] + s + padded[min(len(padded), at+len(s)):]
					if err != api.OK || !there || got != want {
						t.Fatalf("behind Write(%s, %q, %d, %q) is read %q, %v, not %q", short(d), name, at, s, got, there, want)
					}
				}
			}
		}
	}
}

// TestLasts: P15.6, what was made to last lasts, whatever is kept, under its name or a new one; what is gone stays so.
func TestLasts(t *testing.T) {
	all := keeps(5)
	for _, d := range small() {
		for _, f := range d.Files {
			want, _ := disk.Read(d, f.Name)
			synced, _ := disk.Sync(d, f.Name)
			renamed, _ := disk.Rename(synced, f.Name, "new")
			removed, _ := disk.Remove(synced, f.Name)
			longer, _ := disk.Write(synced, f.Name, len(want), "later")
			for _, keep := range all[:1<<(2+pending(d))-1] {
				if got, there := disk.Read(disk.Crash(synced, keep), f.Name); got != want || !there {
					t.Fatalf("of %s, %v lasts %q, %v", short(synced), keep, got, there)
				}
				if got, there := disk.Read(disk.Crash(renamed, keep), "new"); got != want || !there {
					t.Fatalf("of %s, %v lasts %q, %v", short(renamed), keep, got, there)
				}
				if _, there := disk.Read(disk.Crash(renamed, keep), f.Name); there {
					t.Fatalf("of %s, %v what had the name lasts", short(renamed), keep)
				}
				if _, there := disk.Read(disk.Crash(removed, keep), f.Name); there {
					t.Fatalf("of %s, %v what is gone lasts", short(removed), keep)
				}
				if got, there := disk.Read(disk.Crash(longer, keep), f.Name); got != want && got != want+"later" || !there {
					t.Fatalf("of %s, %v lasts %q, %v", short(longer), keep, got, there)
				}
			}
		}
	}
}

// anyAct is an act of any kind at a few names, with numbers around the bounds too.
func anyAct(r *rand.Rand, n int) act {
	names := append([]string{"a", "b", "c", "d", "e", "f", "g", "h", "i", "j"}[:n], "", "a/")
	name, other := names[r.IntN(len(names))], names[r.IntN(len(names))]
	at := r.IntN(40)
	if r.IntN(20) == 0 {
		at = []int{-1, mostBytes - 3, mostBytes, mostBytes + 1}[r.IntN(4)]
	}
	switch r.IntN(40) {
	case 0, 1:
		return removing(name)
	case 2, 3:
		return renaming(name, other)
	case 4:
		return syncing(name)
	}
	return writing(name, at, strings.Repeat(string(rune('a'+r.IntN(26))), r.IntN(6)))
}

// TestWalk: P15.2 to P15.7, long ways of acts, power that goes and comes, each step against the chapter, and other files staying as they are.
func TestWalk(t *testing.T) {
	r := rand.New(rand.NewPCG(15, 7))
	met := map[api.Errno]int{}
	for round := range 24 {
		d := on()
		for range 1500 {
			if d.Off || r.IntN(400) == 0 {
				d = holdsCrash(t, d, anyKeep(r, r.IntN(pending(d)+2)))
				d.Fuse = []int{-1, r.IntN(200), mostFuse}[r.IntN(3)]
			}
			a := anyAct(r, 1+round%10)
			_, err := a.call(d)
			met[err]++
			d = a.holds(t, d)
		}
	}
	for _, err := range []api.Errno{api.OK, api.ErrName, api.ErrRange, api.ErrMany, api.ErrNone, api.ErrPower} {
		if met[err] < 10 {
			t.Errorf("%v was met %d times", err, met[err])
		}
	}
}

// TestOthersStay: P15.7, files that an act does not name stay, read and behind a loss of power.
func TestOthersStay(t *testing.T) {
	d := on(file("a", "abc", op(1, "1")), file("c", "", op(0, "2")), file("e", "x"), file("g", "", op(3, "4"), op(0, "5")))
	named := func(f api.DFile, names ...string) bool { return slices.Contains(names, f.Name) }
	for _, c := range []struct {
		a     act
		names []string
	}{
		{writing("c", 4, "z"), []string{"c"}}, {writing("d", 0, "z"), []string{"d"}}, {writing("b", 0, ""), []string{"b"}}, {syncing("g"), []string{"g"}},
		{syncing("a"), []string{"a"}}, {renaming("a", "f"), []string{"a", "f"}}, {renaming("g", "b"), []string{"g", "b"}}, {renaming("a", "g"), []string{"a", "g"}}, {removing("c"), []string{"c"}},
	} {
		got, err := c.a.call(d)
		if err != api.OK {
			t.Fatalf("%s = %v", c.a.words, err)
		}
		for _, f := range d.Files {
			if named(f, c.names...) {
				continue
			}
			if g, there := is(got, f.Name); !there || !same(on(g), on(f)) {
				t.Errorf("%s changed %s to %s", c.a.words, short(on(f)), short(on(g)))
			}
		}
		for _, f := range got.Files {
			if _, there := is(d, f.Name); !there && !named(f, c.names...) {
				t.Errorf("%s brought %s", c.a.words, short(on(f)))
			}
		}
	}
}
