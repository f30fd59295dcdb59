package wal_test

import (
	"encoding/binary"
	"fmt"
	"hash/crc32"
	"slices"
	"strings"
	"testing"

	"silo/api"
	"silo/disk"
	"silo/wal"
)

// What the document names.
const (
	mostText  = 65536
	mostFiles = 8
	mostOps   = 200
	mostBytes = 262144
)

func op(at int, s string) api.Op { return api.Op{At: at, Data: s} }

func file(name, data string, ops ...api.Op) api.DFile {
	return api.DFile{Name: name, Data: data, Ops: ops}
}

// on is a disk that is on, and whose power stays.
func on(files ...api.DFile) api.Disk { return api.Disk{Files: files, Fuse: -1} }

// off is a disk whose power is gone.
func off(files ...api.DFile) api.Disk { return api.Disk{Files: files, Off: true, Fuse: -1} }

// fused is a disk that has so many acts left.
func fused(fuse int, files ...api.DFile) api.Disk { return api.Disk{Files: files, Fuse: fuse} }

func zeros(n int) string { return strings.Repeat("\x00", n) }

func bytes(n int) string { return strings.Repeat("x", n) }

// framed is the frames of texts, one behind the other, as chapter 3 has them.
func framed(l ...string) string {
	var out []byte
	for _, s := range l {
		body := append(binary.AppendUvarint(nil, uint64(len(s))), s...)
		out = append(out, binary.LittleEndian.AppendUint32(body, crc32.Checksum(body, crc32.MakeTable(crc32.Castagnoli)))...)
	}
	return string(out)
}

// many is n ops that lay a log's bytes on it again and again.
func many(n int, s string) []api.Op { return slices.Repeat([]api.Op{op(0, s)}, n) }

// others are n files that are no log's.
func others(n int) []api.DFile {
	var l []api.DFile
	for i := range n {
		l = append(l, file(fmt.Sprintf("f%d", i), "y", op(i, "z")))
	}
	return l
}

// short is a disk in words that can be read in a failure.
func short(d api.Disk) string {
	var out strings.Builder
	fmt.Fprintf(&out, "[off %v fuse %d", d.Off, d.Fuse)
	for _, f := range d.Files {
		fmt.Fprintf(&out, ", %.20q: %.40q/%d", f.Name, f.Data, len(f.Data))
		for i, x := range f.Ops {
			if i == 5 {
				fmt.Fprintf(&out, " and %d more", len(f.Ops)-i)
				break
			}
			fmt.Fprintf(&out, " %d:%.40q/%d", x.At, x.Data, len(x.Data))
		}
	}
	return out.String() + "]"
}

// brief are texts in words that can be read in a failure.
func brief(l []string) string {
	var out []string
	for i, s := range l {
		if i == 8 {
			out = append(out, fmt.Sprintf("and %d more", len(l)-i))
			break
		}
		out = append(out, fmt.Sprintf("%.20q/%d", s, len(s)))
	}
	return "[" + strings.Join(out, " ") + "]"
}

// same holds two disks against each other, field by field.
func same(a, b api.Disk) bool {
	return a.Off == b.Off && a.Fuse == b.Fuse && slices.EqualFunc(a.Files, b.Files, func(f, g api.DFile) bool {
		return f.Name == g.Name && f.Data == g.Data && slices.Equal(f.Ops, g.Ops)
	})
}

// deep is a disk that shares no list with another one.
func deep(d api.Disk) api.Disk {
	d.Files = slices.Clone(d.Files)
	for i := range d.Files {
		d.Files[i].Ops = slices.Clone(d.Files[i].Ops)
	}
	return d
}

// check holds a call's answers against what is wanted.
func check(t *testing.T, name string, got api.Disk, err api.Errno, want api.Disk, wantErr api.Errno) {
	t.Helper()
	if err != wantErr || !same(got, want) {
		t.Errorf("%s = %s, %v, not %s, %v", name, short(got), err, short(want), wantErr)
	}
	if !disk.Fit(got) {
		t.Errorf("%s: %s is not fit", name, short(got))
	}
}

// TestExample: the chapter's example.
func TestExample(t *testing.T) {
	d, err := wal.Append(on(), []string{"a", "b"})
	if err != api.OK {
		t.Fatalf("Append = %v", err)
	}
	if l := wal.Load(d); !slices.Equal(l, []string{"a", "b"}) {
		t.Errorf("Load = %q", l)
	}
}

// TestBytes: P16.2, the bytes of a log, worked out outside the program.
func TestBytes(t *testing.T) {
	d, _ := wal.Append(on(), []string{"a", "", "\x00"})
	want := "\x01a\xc4\xff\x6e\x71" + "\x00\x51\x53\x7d\x52" + "\x01\x00\xa5\xef\xc3\xe2"
	got, _ := disk.Read(d, "log")
	if got != want {
		t.Errorf("a, none and 0 are %x, not %x", got, want)
	}
	if framed("a", "", "\x00") != want {
		t.Errorf("the tests take them to be %x", framed("a", "", "\x00"))
	}
}

// logs are logs as they are seen, and their records.
func logs() map[string][]string {
	ab := framed("a", "b")
	great := framed(bytes(mostText))
	turned := []byte(ab)
	turned[1] = 'A'
	return map[string][]string{
		"":                           nil,
		framed("a"):                  {"a"},
		ab:                           {"a", "b"},
		framed(""):                   {""},
		framed("", "", "c", ""):      {"", "", "c", ""},
		framed("log", "log.new", ab): {"log", "log.new", ab},
		great:                        {bytes(mostText)},
		great + great + framed("b"):  {bytes(mostText), bytes(mostText), "b"},
		framed(slices.Repeat([]string{"q"}, 1000)...): slices.Repeat([]string{"q"}, 1000),
		// Torn ones.
		"x":                            nil,
		"\x00":                         nil,
		zeros(100):                     nil,
		ab[:5]:                         nil,
		ab[1:]:                         nil,
		ab[:len(ab)-1]:                 {"a"},
		ab[:len(ab)/2+1]:               {"a"},
		ab + "\x00":                    {"a", "b"},
		ab + framed("c")[:5]:           {"a", "b"},
		ab + "x" + framed("c"):         {"a", "b"},
		framed("a") + string(turned):   {"a"},
		string(turned):                 nil,
		framed("") + zeros(5):          {""},
		great[:len(great)-1]:           nil,
		framed("a") + great[:70]:       {"a"},
		framed("a") + "\x81\x80\x04yy": {"a"},
		framed("a") + "\x81\x00a":      {"a"},
	}
}

// bodies are files that read as a log does: what lasts, and what may be lost.
func bodies(name, s string) []api.DFile {
	l := []api.DFile{file(name, s)}
	if s == "" {
		return l
	}
	half := len(s) / 2
	l = append(l, file(name, "", op(0, s)), file(name, s[:len(s)-1], op(len(s)-1, s[len(s)-1:])), file(name, zeros(len(s)), op(0, s)), file(name, "q", op(half, s[half:]), op(0, s[:half+1])))
	return append(l, file(name, s[:half], op(half, zeros(1)), op(half, s[half:])))
}

// around are disks of a log among other files, with power and without.
func around(f api.DFile) []api.Disk {
	var l []api.Disk
	for _, files := range [][]api.DFile{{f}, {file("a", "x"), f}, {f, file("z", framed("z"), op(0, "y"))}, {file("LOG", framed("L")), file("lo", "x"), f, file("log.new", framed("n")), file("log0", "y")}} {
		l = append(l, on(files...), off(files...), fused(0, files...), fused(1, files...), fused(1<<20, files...))
	}
	return l
}

// TestLoad: P16.1, records of logs, torn ones and whole, whether they last or not, with power and without.
func TestLoad(t *testing.T) {
	for s, want := range logs() {
		for _, f := range bodies("log", s) {
			for _, d := range around(f) {
				if got := wal.Load(d); !slices.Equal(got, want) {
					t.Errorf("Load(%s) = %s, not %s", short(d), brief(got), brief(want))
				}
			}
		}
	}
}

// TestLoadOfNone: P16.1, there are no records where there is no log, whatever other files have.
func TestLoadOfNone(t *testing.T) {
	s := framed("a", "b")
	for _, d := range []api.Disk{
		on(), off(), fused(0), on(file("log.new", s)), on(file("LOG", s)), on(file("lo", s), file("log.", s), file("logs", s)), on(file("a", s)), off(file("", s)), on(file("wal", s)), on(others(8)...),
	} {
		if got := wal.Load(d); len(got) != 0 {
			t.Errorf("Load(%s) = %s", short(d), brief(got))
		}
	}
}

// TestAppend: P16.2, texts come behind the records that there are, and all of the log lasts.
func TestAppend(t *testing.T) {
	lists := [][]string{{"c"}, {""}, {"c", "d"}, {"c", "c", "", "\x00\xff"}, {bytes(1000), "c"}, {framed("c")[:3]}, slices.Repeat([]string{"e"}, 500)}
	for s, had := range logs() {
		if framed(had...) != s || len(s) > mostBytes-mostText {
			continue
		}
		for _, l := range lists {
			for _, f := range bodies("log", s) {
				for _, acts := range []int{-1, 2, 3, 1 << 20} {
					got, err := wal.Append(fused(acts, f, file("z", "y", op(0, "x"))), l)
					check(t, "Append of "+brief(l), got, err, fused(max(-1, acts-2), file("log", s+framed(l...)), file("z", "y", op(0, "x"))), api.OK)
					if told := wal.Load(got); !slices.Equal(told, slices.Concat(had, l)) {
						t.Errorf("behind Append of %s to %s: %s", brief(l), brief(had), brief(told))
					}
				}
			}
		}
	}
	got, err := wal.Append(on(file("a", "x"), file("log.new", "y", op(3, "z")), file("logs", "")), []string{"a", "b"})
	check(t, "Append where there is no log", got, err, on(file("a", "x"), file("log", framed("a", "b")), file("log.new", "y", op(3, "z")), file("logs", "")), api.OK)
	got, err = wal.Append(fused(2, others(7)...), []string{"a"})
	check(t, "Append where there is room for one file", got, err, fused(0, append(others(7), file("log", framed("a")))...), api.OK)
}

// TestAppendByAndBy: P16.2, what came by and by is as what came at once.
func TestAppendByAndBy(t *testing.T) {
	all := []string{"a", "", "bc", bytes(300), "d"}
	once, _ := wal.Append(on(), all)
	d := on()
	for i, s := range all {
		var err api.Errno
		if d, err = wal.Append(d, []string{s}); err != api.OK {
			t.Fatalf("Append of %.20q = %v", s, err)
		}
		if l := wal.Load(d); !slices.Equal(l, all[:i+1]) {
			t.Errorf("behind %.20q: %s", s, brief(l))
		}
	}
	if !same(d, once) {
		t.Errorf("by and by: %s, at once: %s", short(d), short(once))
	}
}

// TestAppendNothing: P16.2, nothing is done with no text, power or not; not so of a torn log.
func TestAppendNothing(t *testing.T) {
	for _, l := range [][]string{nil, {}} {
		for s, had := range logs() {
			torn := framed(had...) != s
			for _, f := range bodies("log", s) {
				for _, d := range around(f) {
					got, err := wal.Append(d, l)
					want := api.OK
					if torn {
						want = api.ErrForm
					}
					check(t, "Append of nothing to "+short(d), got, err, d, want)
				}
			}
		}
		for _, d := range []api.Disk{on(), off(), fused(0), fused(3), on(others(8)...), on(file("log", framed("a"), many(200, framed("b"))...)), on(file("log", framed(bytes(1000)), op(1006, framed("x"))))} {
			got, err := wal.Append(d, l)
			check(t, "Append of nothing to "+short(d), got, err, d, api.OK)
		}
	}
}

// TestAppendBounds: P16.2, texts and frames at their bounds, and one beyond.
func TestAppendBounds(t *testing.T) {
	fits := [][]string{{bytes(65529)}, {bytes(65523), "b"}, {"", bytes(65524)}, {bytes(40000), bytes(25522)}, slices.Repeat([]string{"abc"}, 8192), slices.Repeat([]string{"abcdefghijk"}, 4096)}
	for i, l := range fits {
		if n := len(framed(l...)); n != mostText {
			t.Fatalf("list %d has %d bytes", i, n)
		}
		got, err := wal.Append(on(file("log", framed("a"))), l)
		check(t, "Append of "+brief(l), got, err, on(file("log", framed(slices.Concat([]string{"a"}, l)...))), api.OK)
	}
	great := [][]string{
		{bytes(65530)}, {bytes(65536)}, {bytes(65537)}, {bytes(1 << 20)}, {bytes(65523), "bc"}, {"", bytes(65525)}, {bytes(65529), ""}, {"", bytes(65529)}, {"a", bytes(65537)}, {bytes(65537), "a"}, {"a", bytes(65537), "a"},
		{bytes(40000), bytes(25523)}, append(slices.Repeat([]string{"abc"}, 8192), ""), append(slices.Repeat([]string{"abc"}, 8191), "abcd"), slices.Repeat([]string{""}, 13108), slices.Repeat([]string{bytes(65536)}, 1<<15),
	}
	for _, l := range great {
		for _, d := range []api.Disk{on(), off(), fused(0), fused(2), on(file("log", framed("a"), op(0, framed("b")))), on(others(8)...), on(file("log", framed("a"), many(200, framed("b"))...))} {
			got, err := wal.Append(d, l)
			check(t, "Append of "+brief(l)+" to "+short(d), got, err, d, api.ErrRange)
		}
	}
	if n := len(framed(slices.Repeat([]string{""}, 13107)...)); n != mostText-1 {
		t.Fatalf("13107 frames of nothing have %d bytes", n)
	}
	got, err := wal.Append(on(), slices.Repeat([]string{""}, 13107))
	check(t, "Append of 13107 empty ones", got, err, on(file("log", framed(slices.Repeat([]string{""}, 13107)...))), api.OK)
}

// TestAppendTorn: P16.2, a torn log is told ahead of all else.
func TestAppendTorn(t *testing.T) {
	for s, had := range logs() {
		if framed(had...) == s {
			continue
		}
		for _, f := range bodies("log", s) {
			for _, d := range around(f) {
				for _, l := range [][]string{nil, {"a"}, {"", "b"}, {bytes(65530)}, {bytes(65537)}} {
					got, err := wal.Append(d, l)
					check(t, "Append to "+short(d), got, err, d, api.ErrForm)
				}
			}
		}
	}
}

// TestAppendDisk: P16.2, of the disk's errors the first ends the call; the disk is the one behind it.
func TestAppendDisk(t *testing.T) {
	a, b := framed("a"), framed("b")
	full := framed(bytes(mostText-7), bytes(mostText-7), bytes(mostText-7), bytes(mostText-13))
	if len(full)+len(a) != mostBytes {
		t.Fatalf("the full log has %d bytes", len(full))
	}
	for name, c := range map[string]struct {
		d, want api.Disk
		err     api.Errno
	}{
		"no power":                         {off(file("log", a)), off(file("log", a)), api.ErrPower},
		"no power, no log":                 {off(), off(), api.ErrPower},
		"no power, no room":                {off(others(8)...), off(others(8)...), api.ErrPower},
		"too many files":                   {on(others(8)...), on(others(8)...), api.ErrMany},
		"too many files, fuse":             {fused(0, others(8)...), fused(0, others(8)...), api.ErrMany},
		"many files, one is the log":       {on(append(others(7), file("log", a))...), on(append(others(7), file("log", a+b))...), api.OK},
		"too many ops":                     {on(file("log", "", many(200, a)...)), on(file("log", "", many(200, a)...)), api.ErrMany},
		"too many ops, fuse":               {fused(0, file("log", "", many(200, a)...)), fused(0, file("log", "", many(200, a)...)), api.ErrMany},
		"the most ops":                     {on(file("log", "", many(199, a)...)), on(file("log", a+b)), api.OK},
		"the most ops, then the power":     {fused(1, file("log", "", many(199, a)...)), off(file("log", "", append(many(199, a), op(6, b))...)), api.ErrPower},
		"no bytes left":                    {on(file("log", full+a)), on(file("log", full+a)), api.ErrRange},
		"no bytes left, no power":          {off(file("log", full+a)), off(file("log", full+a)), api.ErrPower},
		"no bytes left, too many ops":      {on(file("log", full+a, many(200, framed(bytes(mostText-7)))...)), on(file("log", full+a, many(200, framed(bytes(mostText-7)))...)), api.ErrRange},
		"as many bytes as are left":        {on(file("log", full)), on(file("log", full+b)), api.OK},
		"no act left":                      {fused(0, file("log", a)), off(file("log", a)), api.ErrPower},
		"no act left, no log":              {fused(0), off(), api.ErrPower},
		"one act left":                     {fused(1, file("log", a)), off(file("log", a, op(6, b))), api.ErrPower},
		"one act left, no log":             {fused(1, file("z", "")), off(file("log", "", op(0, b)), file("z", "")), api.ErrPower},
		"one act left, what does not last": {fused(1, file("log", "", op(0, a))), off(file("log", "", op(0, a), op(6, b))), api.ErrPower},
		"two acts left":                    {fused(2, file("log", "", op(0, a))), fused(0, file("log", a+b)), api.OK},
	} {
		got, err := wal.Append(c.d, []string{"b"})
		check(t, name, got, err, c.want, c.err)
	}
}
