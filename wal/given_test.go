package wal_test

import (
	"math"
	"math/rand/v2"
	"slices"
	"testing"
	"time"

	"silo/api"
	"silo/wal"
)

// roomy is a disk whose lists have room behind what is in them, with a log of such bytes, and another one anew, if it is to be there.
func roomy(fuse int, s string, names ...string) api.Disk {
	d := api.Disk{Files: make([]api.DFile, 0, 20), Fuse: fuse}
	for _, name := range names {
		ops := make([]api.Op, 0, 20)
		d.Files = append(d.Files, file(name, s, append(ops, op(0, s[:1]), op(1, s[1:]))...))
	}
	return d
}

// spoil changes all that a disk's lists hold, and what room they have.
func spoil(d api.Disk) {
	files := d.Files[:cap(d.Files)]
	for i := range files {
		ops := files[i].Ops[:cap(files[i].Ops)]
		for k := range ops {
			ops[k] = op(99, "spoilt")
		}
		files[i] = file("spoilt", "spoilt")
	}
}

// givens are disks that calls are handed: with a log whole and torn, with and without power and room.
func givens() map[string]func() api.Disk {
	a := framed("a", "b")
	dark := func(d api.Disk) api.Disk { d.Off, d.Fuse = true, -1; return d }
	return map[string]func() api.Disk{
		"whole":               func() api.Disk { return roomy(9, a, "a", "log", "z") },
		"whole, dark":         func() api.Disk { return dark(roomy(-1, a, "a", "log", "z")) },
		"whole, no act":       func() api.Disk { return roomy(0, a, "a", "log", "z") },
		"whole, one act":      func() api.Disk { return roomy(1, a, "a", "log", "z") },
		"no log":              func() api.Disk { return roomy(9, a, "a", "b", "z") },
		"no log, dark":        func() api.Disk { return dark(roomy(-1, a, "a", "b", "z")) },
		"torn":                func() api.Disk { return roomy(9, a+"x", "a", "log", "z") },
		"torn, dark":          func() api.Disk { return dark(roomy(-1, a+"x", "a", "log", "z")) },
		"torn, new":           func() api.Disk { return roomy(9, a+"x", "log", "log.new", "z") },
		"torn, new, no act":   func() api.Disk { return roomy(0, a+"x", "log", "log.new", "z") },
		"torn, new, one act":  func() api.Disk { return roomy(1, a+"x", "log", "log.new", "z") },
		"torn, new, two acts": func() api.Disk { return roomy(2, a+"x", "log", "log.new", "z") },
		"torn, no room":       func() api.Disk { return roomy(9, a+"x", "a", "b", "c", "d", "e", "f", "g", "log") },
	}
}

// calls are all that tell a disk.
func calls() map[string]func(d api.Disk) api.Disk {
	return map[string]func(d api.Disk) api.Disk{
		"Trim":              func(d api.Disk) api.Disk { d, _ = wal.Trim(d); return d },
		"Append":            func(d api.Disk) api.Disk { d, _ = wal.Append(d, []string{"c"}); return d },
		"Append of nothing": func(d api.Disk) api.Disk { d, _ = wal.Append(d, nil); return d },
		"Append of much":    func(d api.Disk) api.Disk { d, _ = wal.Append(d, []string{bytes(mostText)}); return d },
	}
}

// TestNewMemory: 0.5, what is told shares no list with what was given, nor with what is told again; what was given stays.
func TestNewMemory(t *testing.T) {
	for given, start := range givens() {
		for name, call := range calls() {
			d, untouched := start(), start()
			first, again := call(d), call(d)
			want := deep(again)
			spoil(first)
			if !same(again, want) {
				t.Errorf("%s, %s tells one list twice", name, given)
			}
			if !same(d, untouched) {
				t.Errorf("%s, %s tells a list that it was given", name, given)
			}
			for i, f := range d.Files[:cap(d.Files)] {
				if i >= len(d.Files) && f.Name != "" || i < len(d.Files) && f.Ops[:cap(f.Ops)][2] != (api.Op{}) {
					t.Errorf("%s, %s fills the room behind what it was given", name, given)
				}
			}
			spoil(d)
			if !same(again, want) {
				t.Errorf("%s, %s hangs on what it was given later", name, given)
			}
			for i := range again.Files {
				_ = append(again.Files[i].Ops, op(99, "spoilt"), op(99, "spoilt"))
			}
			if !same(again, want) {
				t.Errorf("%s, %s tells files that share a list", name, given)
			}
		}
	}
}

// TestRecordsNew: 0.5, a log's records are told anew each time, and texts that are appended stay.
func TestRecordsNew(t *testing.T) {
	l := append(make([]string, 0, 9), "a", "", "b")
	d, _ := wal.Append(on(), l)
	if !slices.Equal(l[:cap(l)], []string{"a", "", "b", "", "", "", "", "", ""}) {
		t.Errorf("Append changes what it was given to %q", l[:cap(l)])
	}
	one, two := wal.Load(d), wal.Load(d)
	clear(one[:cap(one)])
	l[0] = "spoilt"
	if !slices.Equal(two, []string{"a", "", "b"}) || !slices.Equal(wal.Load(d), two) {
		t.Errorf("records are told that others can change: %q", two)
	}
}

// unfit are disks of which nothing is promised but that calls end.
func unfit(r *rand.Rand) []api.Disk {
	a := framed("a")
	odd := []api.DFile{
		{}, file("", a), file("log", a), file("log", ""), file("log", a+"x"), file("log", "", op(-1, "c")), file("log", a, op(math.MinInt, "c"), op(0, "d")), file("log", "", op(math.MaxInt, "c")), file("log", a, op(math.MaxInt-1, "abc")), file("log", "", op(1<<40, "c")),
		file("log", bytes(1<<20)), file("log", a+bytes(1<<20), op(1<<20, "y")), file("log", "", op(0, bytes(1<<20)), op(0, a)), file("log", framed(slices.Repeat([]string{"a"}, 1<<17)...)), file("log", a, many(3000, "x")...), file("log", "", op(5, ""), op(-5, "")),
		file("log.new", ""), file("log.new", a, many(3000, a)...), file("log.new", bytes(1<<20)), file("log.new", "x", op(-1, "y")), file("a", "x"), file("z", ""), file("/", "", op(-1, "x")), file(bytes(1<<16), ""),
	}
	l := []api.Disk{{}, {Off: true}, {Off: true, Fuse: 7}, {Fuse: math.MinInt}, {Fuse: math.MaxInt}, on(odd...), on(others(2000)...), on(slices.Repeat([]api.DFile{file("log", a+"x")}, 2000)...), on(slices.Repeat([]api.DFile{file("log.new", a)}, 2000)...)}
	for _, f := range odd {
		l = append(l, on(f), fused(1, f, f), on(f, file("log.new", "x"), file("log.new", "y")))
	}
	for range 200 {
		var d api.Disk
		for range r.IntN(12) {
			d.Files = append(d.Files, odd[r.IntN(len(odd))])
		}
		d.Off, d.Fuse = r.IntN(4) == 0, r.IntN(7)-2
		l = append(l, d)
	}
	return l
}

// TestAny: 0.1, any arguments: each call ends, and none panics; nothing that is given is changed.
func TestAny(t *testing.T) {
	r := rand.New(rand.NewPCG(16, 1))
	done := make(chan bool)
	go func() {
		defer close(done)
		for _, d := range unfit(r) {
			given := deep(d)
			wal.Load(d)
			wal.Trim(d)
			for _, l := range [][]string{nil, {}, {"a"}, {bytes(1 << 20)}, {"", ""}, slices.Repeat([]string{bytes(mostText)}, 1<<15)} {
				wal.Append(d, l)
			}
			if !same(d, given) {
				t.Errorf("%s was changed to %s", short(given), short(d))
			}
		}
	}()
	select {
	case <-done:
	case <-time.After(60 * time.Second):
		t.Fatal("a call does not end")
	}
}
