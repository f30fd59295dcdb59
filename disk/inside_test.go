package disk

import (
	"slices"
	"testing"

	"silo/api"
)

// three is a disk of three files, the middle one of which has no ops.
func three() api.Disk {
	return api.Disk{Files: []api.DFile{
		{Name: "a", Ops: []api.Op{{At: 0, Data: "1"}, {At: 5, Data: "2"}}},
		{Name: "b", Data: "x"},
		{Name: "c", Ops: []api.Op{{At: 3, Data: "3"}}},
	}}
}

// TestOps: ops are handed out with their places and files, in order.
func TestOps(t *testing.T) {
	var places []int
	var all []fileOp
	for place, x := range ops(three()) {
		places, all = append(places, place), append(all, x)
	}
	want := []fileOp{{api.Op{At: 0, Data: "1"}, 0}, {api.Op{At: 5, Data: "2"}, 0}, {api.Op{At: 3, Data: "3"}, 2}}
	if !slices.Equal(places, []int{0, 1, 2}) || !slices.Equal(all, want) {
		t.Errorf("%v, %v are handed out", places, all)
	}
}

// TestOpsLeft: what hands out ops may be left, at each of them.
func TestOpsLeft(t *testing.T) {
	for last := range 3 {
		n := 0
		for place := range ops(three()) {
			n++
			if place == last {
				break
			}
		}
		if n != last+1 {
			t.Errorf("%d ops are handed out, up to place %d", n, last)
		}
	}
}
