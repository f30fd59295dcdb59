package wal_test

import (
	"fmt"
	"math/rand/v2"
	"slices"
	"testing"

	"silo/api"
	"silo/disk"
	"silo/wal"
)

// kept hands out all that may be kept of a disk's ops.
func kept(d api.Disk, yield func(keep []bool)) {
	n := 0
	for _, f := range d.Files {
		n += len(f.Ops)
	}
	for set := range 1 << n {
		keep := make([]bool, n)
		for i := range keep {
			keep[i] = set>>i&1 == 1
		}
		yield(keep)
	}
}

// crashes hands out the disks behind a loss of power, whatever is kept.
func crashes(d api.Disk, yield func(d api.Disk)) {
	kept(d, func(keep []bool) { yield(disk.Crash(d, keep)) })
}

// trimmed are a log's records behind Trim, which goes well.
func trimmed(t *testing.T, d api.Disk) []string {
	t.Helper()
	d, err := wal.Trim(d)
	if err != api.OK {
		t.Errorf("Trim of %s = %v", short(d), err)
	}
	return wal.Load(d)
}

// beside are files beside a log, of which something may be lost.
func beside() [][]api.DFile {
	return [][]api.DFile{nil, {file("z", "y", op(0, "x"))}, {file("a", "", op(0, "x"), op(3, "y"))}, {file("log.new", framed("n"), op(0, "x"))}, {file("log.new", "", op(0, framed("m", "n")))}}
}

// sorted is a disk of files, in order.
func sorted(fuse int, files ...api.DFile) api.Disk {
	l := slices.Clone(files)
	slices.SortFunc(l, func(a, b api.DFile) int {
		if a.Name < b.Name {
			return -1
		}
		return 1
	})
	return fused(fuse, l...)
}

// TestAppendAllOrNone: P16.4, power that is lost at each act of Append, whatever is kept: the records that there were, or these and all that came.
func TestAppendAllOrNone(t *testing.T) {
	for _, had := range [][]string{nil, {"a"}, {"a", "", "b"}, {bytes(3000)}} {
		for _, l := range [][]string{{"c"}, {"c", "d"}, {"", "", ""}, {"a"}, {bytes(2000), "e", bytes(2000)}, slices.Repeat([]string{"f"}, 300)} {
			all := slices.Concat(had, l)
			for _, files := range beside() {
				if had != nil {
					files = append(slices.Clone(files), file("log", framed(had...)))
				}
				for fuse := range 4 {
					d, err := wal.Append(sorted(fuse, files...), l)
					if (err == api.OK) != (fuse >= 2) || err != api.OK && err != api.ErrPower {
						t.Errorf("Append of %s with %d acts left = %v", brief(l), fuse, err)
					}
					some, none := false, false
					crashes(d, func(d api.Disk) {
						got := trimmed(t, d)
						some, none = some || slices.Equal(got, all), none || slices.Equal(got, had)
						if !slices.Equal(got, all) && !slices.Equal(got, had) {
							t.Errorf("%s, %s with %d acts left: %s", brief(had), brief(l), fuse, brief(got))
						}
					})
					// A loss behind the write may go both ways, others just one.
					if none != (fuse < 2) || some != (fuse > 0) {
						t.Errorf("%s, %s with %d acts left: all %v, none %v", brief(had), brief(l), fuse, some, none)
					}
				}
			}
		}
	}
}

// lastingLogs are files whose records last, whatever is kept of what is torn behind them.
func lastingLogs(had []string) []api.DFile {
	s := framed(had...)
	n := len(s)
	c := framed("c")
	return []api.DFile{
		file("log", s), file("log", s+"x"), file("log", s+c[:5]), file("log", s+zeros(20)), file("log", s+"x"+c),
		file("log", s, op(n, "x")), file("log", s, op(n, c[:5])), file("log", s, op(n+1, "x")), file("log", s, op(n, "x"), op(n+2, "y"), op(n+9, c)), file("log", s+"x", op(n+1, c), op(n, "y")), file("log", s, op(0, s), op(n, "x")),
	}
}

// TestTrimPower: P16.5, power that is lost at each act of Trim, whatever is kept: the records that there were; Trim again comes to the same, and as often as the power goes again.
func TestTrimPower(t *testing.T) {
	for _, had := range [][]string{nil, {"a"}, {"a", "", "b"}, {bytes(3000), "a"}} {
		for _, f := range lastingLogs(had) {
			for _, files := range beside() {
				for fuse := range 6 {
					start := sorted(fuse, append(slices.Clone(files), f)...)
					d, _ := wal.Trim(start)
					crashes(d, func(d api.Disk) {
						if got := wal.Load(d); !slices.Equal(got, had) {
							t.Errorf("Trim of %s with %d acts left: %s", short(start), fuse, brief(got))
						}
						if got := trimmed(t, d); !slices.Equal(got, had) {
							t.Errorf("Trim again of %s with %d acts left: %s", short(start), fuse, brief(got))
						}
						for again := range 5 {
							d.Fuse = again
							twice, _ := wal.Trim(d)
							crashes(twice, func(d api.Disk) {
								if got := trimmed(t, d); !slices.Equal(got, had) {
									t.Errorf("Trim of %s with %d and %d acts left: %s", short(start), fuse, again, brief(got))
								}
							})
						}
					})
				}
			}
		}
	}
}

// TestTrimTwice: P16.5, Trim of what was trimmed changes nothing but the acts that are left, and nothing of it can be lost.
func TestTrimTwice(t *testing.T) {
	for s, had := range logs() {
		for _, f := range bodies("log", s) {
			for _, files := range beside() {
				d, err := wal.Trim(sorted(-1, append(slices.Clone(files), f)...))
				if err != api.OK {
					t.Fatalf("Trim = %v", err)
				}
				again, err := wal.Trim(d)
				check(t, "Trim again", again, err, d, api.OK)
				crashes(d, func(d api.Disk) {
					if got := wal.Load(d); !slices.Equal(got, had) {
						t.Errorf("what Trim of %s made to last was lost: %s", short(on(f)), brief(got))
					}
				})
			}
		}
	}
}

// TestLasts: P16.2, P16.4, behind Append that goes well nothing of the log can be lost.
func TestLasts(t *testing.T) {
	for s, had := range logs() {
		if framed(had...) != s || len(s) > mostBytes-mostText {
			continue
		}
		for _, f := range bodies("log", s) {
			d, err := wal.Append(on(f, file("z", "", op(0, "x"))), []string{"n", ""})
			if err != api.OK {
				t.Fatalf("Append = %v", err)
			}
			crashes(d, func(d api.Disk) {
				if got := wal.Load(d); !slices.Equal(got, append(slices.Clone(had), "n", "")) {
					t.Errorf("what Append to %s made to last was lost: %s", short(on(f)), brief(got))
				}
			})
		}
	}
}

// walk is a disk whose log is as the records that are sure, till the power is lost, and what may be behind it then.
type walk struct {
	r    *rand.Rand
	d    api.Disk
	sure []string
}

// texts are some texts that come.
func (w *walk) texts() []string {
	var l []string
	for range w.r.IntN(4) {
		l = append(l, bytes(w.r.IntN(3))+fmt.Sprint(w.r.IntN(10)))
	}
	return l
}

// lose loses the power: some of what may be lost is kept.
func (w *walk) lose() {
	keep := make([]bool, 50)
	for i := range keep {
		keep[i] = w.r.IntN(2) == 0
	}
	w.d = disk.Crash(w.d, keep)
}

// tear lays bytes behind the log, which may be lost.
func (w *walk) tear() {
	s, _ := disk.Read(w.d, "log")
	w.d, _ = disk.Write(w.d, "log", len(s), "\x05torn")
}

// TestWalk: P16.1 to P16.5, long ways of texts that come, logs that are torn and trimmed, and power that goes.
func TestWalk(t *testing.T) {
	w := &walk{r: rand.New(rand.NewPCG(16, 2)), d: on(file("a", "x"), file("z", "", op(0, "y")))}
	lost, came := 0, 0
	for i := range 20000 {
		if s, _ := disk.Read(w.d, "log"); len(s) > 2000 {
			w.d, w.sure = on(), nil
		}
		w.d.Fuse = w.r.IntN(12) - 1
		l, err := w.texts(), api.OK
		next := slices.Concat(w.sure, l)
		switch w.r.IntN(4) {
		case 0:
			w.tear()
			next = w.sure
			if _, err := wal.Append(w.d, l); err != api.ErrForm && !w.d.Off {
				t.Fatalf("%d: Append to a torn log = %v", i, err)
			}
			w.d, err = wal.Trim(w.d)
		case 1:
			next = w.sure
			w.d, err = wal.Trim(w.d)
		default:
			w.d, err = wal.Append(w.d, l)
		}
		if err == api.OK && !w.d.Off {
			w.sure, came = next, came+1
		}
		if w.d.Off {
			w.lose()
			lost++
			w.d, _ = wal.Trim(w.d)
			if got := wal.Load(w.d); slices.Equal(got, next) {
				w.sure = next
			}
		}
		if got := wal.Load(w.d); !slices.Equal(got, w.sure) {
			t.Fatalf("%d: %s, not %s", i, brief(got), brief(w.sure))
		}
	}
	if lost < 1000 || came < 5000 {
		t.Errorf("the power was lost %d times, %d calls went well", lost, came)
	}
}
