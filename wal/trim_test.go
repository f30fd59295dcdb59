package wal_test

import (
	"slices"
	"testing"

	"silo/api"
	"silo/disk"
	"silo/wal"
)

// TestTrimWhole: P16.3, of a log that is not torn all lasts, by one act; nothing is done, if there is none.
func TestTrimWhole(t *testing.T) {
	for s, had := range logs() {
		if framed(had...) != s {
			continue
		}
		for _, f := range bodies("log", s) {
			for _, acts := range []int{-1, 1, 2, 1 << 20} {
				for _, name := range []string{"log.new", "z"} {
					got, err := wal.Trim(fused(acts, f, file(name, "y", op(0, "x"))))
					check(t, "Trim of "+brief(had), got, err, fused(max(-1, acts-1), file("log", s), file(name, "y", op(0, "x"))), api.OK)
				}
			}
			for _, d := range []api.Disk{off(f, file("z", "y", op(0, "x"))), fused(0, f, file("z", "y", op(0, "x")))} {
				got, err := wal.Trim(d)
				check(t, "Trim of "+brief(had), got, err, off(d.Files...), api.ErrPower)
			}
		}
	}
	for _, d := range []api.Disk{on(), off(), fused(0), fused(1), on(others(8)...), on(file("log.new", "x", op(0, "y"))), off(file("log.new", "x")), fused(0, file("LOG", "x"), file("log.new", framed("a")))} {
		got, err := wal.Trim(d)
		check(t, "Trim where there is no log", got, err, d, api.OK)
	}
}

// step is an act, as the chapter names them one behind the other.
type step func(d api.Disk) (api.Disk, api.Errno)

// steps are the acts of Trim of a torn log with such records.
func steps(d api.Disk, had []string) []step {
	var l []step
	if _, there := disk.Read(d, "log.new"); there {
		l = append(l, func(d api.Disk) (api.Disk, api.Errno) { return disk.Remove(d, "log.new") })
	}
	return append(l,
		func(d api.Disk) (api.Disk, api.Errno) { return disk.Write(d, "log.new", 0, framed(had...)) },
		func(d api.Disk) (api.Disk, api.Errno) { return disk.Sync(d, "log.new") },
		func(d api.Disk) (api.Disk, api.Errno) { return disk.Rename(d, "log.new", "log") })
}

// done is a disk behind acts, up to the first that has an error.
func done(d api.Disk, l []step) (api.Disk, api.Errno) {
	for _, do := range l {
		var err api.Errno
		if d, err = do(d); err != api.OK {
			return d, err
		}
	}
	return d, api.OK
}

// TestTrimTorn: P16.3, of a torn log just its records are left, and last; all acts are done in their order, up to the one at which the power goes.
func TestTrimTorn(t *testing.T) {
	for s, had := range logs() {
		if framed(had...) == s {
			continue
		}
		for _, f := range bodies("log", s) {
			for _, files := range [][]api.DFile{
				{f}, {file("a", "x", op(1, "y")), f, file("z", "")}, {f, file("log.new", "")}, {f, file("log.new", "x")}, {f, file("log.new", bytes(1000), op(0, framed("q")))}, {f, file("log.new", "", op(2, framed("q")))},
				append(others(7), f), append(others(6), f, file("log.new", "x")),
			} {
				for fuse := -1; fuse <= 6; fuse++ {
					d := fused(fuse, files...)
					want, wantErr := done(d, steps(d, had))
					got, err := wal.Trim(d)
					check(t, "Trim of "+short(d), got, err, want, wantErr)
					if err == api.OK && len(files) < mostFiles {
						rest := slices.DeleteFunc(slices.Clone(files), func(f api.DFile) bool { return f.Name == "log.new" })
						rest[slices.IndexFunc(rest, func(f api.DFile) bool { return f.Name == "log" })] = file("log", framed(had...))
						check(t, "Trim of "+short(d), got, err, fused(got.Fuse, rest...), api.OK)
					}
				}
				got, err := wal.Trim(off(files...))
				check(t, "Trim without power", got, err, off(files...), api.ErrPower)
			}
		}
	}
}

// TestTrimByHand: P16.3, disks behind each act, told by hand.
func TestTrimByHand(t *testing.T) {
	a, torn := framed("a"), framed("a")+"to"
	most := framed(bytes(mostText), bytes(mostText), bytes(mostText))
	for name, c := range map[string]struct {
		d, want api.Disk
		err     api.Errno
	}{
		"power":                     {on(file("log", torn)), on(file("log", a)), api.OK},
		"power, not lasting":        {on(file("log", a, op(6, "t"), op(7, "o"))), on(file("log", a)), api.OK},
		"power, nothing lasting":    {on(file("log", "", op(0, torn))), on(file("log", a)), api.OK},
		"no record":                 {on(file("log", "torn")), on(file("log", "")), api.OK},
		"no record, no act":         {fused(0, file("log", "torn")), off(file("log", "torn")), api.ErrPower},
		"no record, one act":        {fused(1, file("log", "torn")), off(file("log", "torn"), file("log.new", "")), api.ErrPower},
		"no record, two acts":       {fused(2, file("log", "torn")), off(file("log", "torn"), file("log.new", "")), api.ErrPower},
		"no record, three acts":     {fused(3, file("log", "torn")), fused(0, file("log", "")), api.OK},
		"no act":                    {fused(0, file("log", torn)), off(file("log", torn)), api.ErrPower},
		"one act":                   {fused(1, file("log", torn)), off(file("log", torn), file("log.new", "", op(0, a))), api.ErrPower},
		"two acts":                  {fused(2, file("log", torn)), off(file("log", torn), file("log.new", a)), api.ErrPower},
		"three acts":                {fused(3, file("log", torn)), fused(0, file("log", a)), api.OK},
		"four acts":                 {fused(4, file("log", torn)), fused(1, file("log", a)), api.OK},
		"another new one, no act":   {fused(0, file("log", torn), file("log.new", torn)), off(file("log", torn), file("log.new", torn)), api.ErrPower},
		"another new one, one act":  {fused(1, file("log", torn), file("log.new", torn)), off(file("log", torn)), api.ErrPower},
		"another new one, two":      {fused(2, file("log", torn), file("log.new", torn)), off(file("log", torn), file("log.new", "", op(0, a))), api.ErrPower},
		"another new one, three":    {fused(3, file("log", torn), file("log.new", torn)), off(file("log", torn), file("log.new", a)), api.ErrPower},
		"another new one, four":     {fused(4, file("log", torn), file("log.new", torn)), fused(0, file("log", a)), api.OK},
		"too many files":            {on(append(others(7), file("log", torn))...), on(append(others(7), file("log", torn))...), api.ErrMany},
		"too many files, fuse":      {fused(0, append(others(7), file("log", torn))...), fused(0, append(others(7), file("log", torn))...), api.ErrMany},
		"many files, one is new":    {on(append(others(6), file("log", torn), file("log.new", "x"))...), on(append(others(6), file("log", a))...), api.OK},
		"many files, new, one act":  {fused(1, append(others(6), file("log", torn), file("log.new", "x"))...), off(append(others(6), file("log", torn))...), api.ErrPower},
		"no power, too many files":  {off(append(others(7), file("log", torn))...), off(append(others(7), file("log", torn))...), api.ErrPower},
		"many ops":                  {on(file("log", torn, many(200, torn)...), file("log.new", torn, many(200, torn)...)), on(file("log", a)), api.OK},
		"great records":             {on(file("log", most+"x")), on(file("log", most)), api.OK},
		"great records, many bytes": {on(file("log", most+zeros(mostBytes-len(most)))), on(file("log", most)), api.OK},
		"whole":                     {fused(1, file("log", a, op(6, a)), file("log.new", "x")), fused(0, file("log", a+a), file("log.new", "x")), api.OK},
		"whole, many ops":           {on(file("log", "", many(200, a)...)), on(file("log", a)), api.OK},
		"whole, no records":         {fused(1, file("log", "")), fused(0, file("log", "")), api.OK},
		"whole, no records, no act": {fused(0, file("log", "")), off(file("log", "")), api.ErrPower},
	} {
		got, err := wal.Trim(c.d)
		check(t, name, got, err, c.want, c.err)
	}
}

// TestTrimThenAppend: P16.2, P16.3, a log that was torn takes texts behind Trim.
func TestTrimThenAppend(t *testing.T) {
	for s, had := range logs() {
		for _, f := range bodies("log", s) {
			d, err := wal.Trim(on(f))
			if err != api.OK {
				t.Fatalf("Trim of %s = %v", short(on(f)), err)
			}
			if l := wal.Load(d); !slices.Equal(l, had) {
				t.Errorf("Trim of %s leaves %s", short(on(f)), brief(l))
			}
			if len(framed(had...)) > mostBytes-6 {
				continue
			}
			d, err = wal.Append(d, []string{"n"})
			check(t, "Append behind Trim", d, err, on(file("log", framed(append(slices.Clone(had), "n")...))), api.OK)
		}
	}
}
