package wal

import (
	"errors"
	"slices"
	"testing"

	"silo/api"
)

// adding is an act that puts a name behind a disk's, and tells an error.
func adding(name string, err api.Errno) act {
	return func(d api.Disk) (api.Disk, api.Errno) {
		d.Files = append(d.Files, api.DFile{Name: name})
		return d, err
	}
}

// namesOf are the names of a disk's files.
func namesOf(d api.Disk) []string {
	var l []string
	for _, f := range d.Files {
		l = append(l, f.Name)
	}
	return l
}

// TestChain: acts are done one behind the other, up to the first that has an error, whose disk is told.
func TestChain(t *testing.T) {
	for _, err := range []api.Errno{api.ErrPower, api.ErrMany, api.ErrShort, -1, 1000} {
		d, got := chain(api.Disk{}, adding("a", api.OK), adding("b", err), adding("c", api.OK))
		if l := namesOf(d); !errors.Is(got, err) || !slices.Equal(l, []string{"a", "b"}) {
			t.Errorf("%v behind %q, not %v", got, l, err)
		}
	}
	d, err := chain(api.Disk{Fuse: 3}, adding("a", api.OK), adding("b", api.OK))
	if l := namesOf(d); err != api.OK || d.Fuse != 3 || !slices.Equal(l, []string{"a", "b"}) {
		t.Errorf("%v behind %q", err, l)
	}
	d, err = chain(api.Disk{Fuse: 3})
	if err != api.OK || d.Fuse != 3 || len(d.Files) != 0 {
		t.Errorf("no act: %v, %v", d, err)
	}
}

// TestIfThere: a file that is there has it done, one that is not leaves the disk as it is.
func TestIfThere(t *testing.T) {
	d := api.Disk{Files: []api.DFile{{Name: "b"}}, Fuse: 5}
	got, err := ifThere("b", removing)(d)
	if err != api.OK || len(got.Files) != 0 || got.Fuse != 4 {
		t.Errorf("b is there: %v, %v", got, err)
	}
	got, err = ifThere("a", removing)(d)
	if err != api.OK || !slices.Equal(namesOf(got), []string{"b"}) || got.Fuse != 5 {
		t.Errorf("a is not there: %v, %v", got, err)
	}
}
