package pack_test

import (
	"math"
	"math/rand/v2"
	"slices"
	"strings"
	"testing"
	"time"

	"silo/api"
	"silo/pack"
)

// TestGivenStays: 0.5, lists that are handed in stay as they are, with the room behind them.
func TestGivenStays(t *testing.T) {
	l := append(make([]api.Object, 0, 9), objects("b", "a", bytes(mostText), "b")...)
	untouched := slices.Clone(l[:cap(l)])
	pack.Wrap(l)
	if !slices.Equal(l[:cap(l)], untouched) {
		t.Error("Wrap changes what it was given")
	}
	for _, first := range []string{"a", "z"} {
		a := append(make([]api.Slot, 0, 9), slot(sum(first), 5, 6), slot(sum("b"), 3, 4), slot(sum("c"), 1, 2))
		b := append(make([]api.Slot, 0, 9), slot(sum("c"), 1, 2))
		givenA, givenB := slices.Clone(a[:cap(a)]), slices.Clone(b[:cap(b)])
		pack.Same(a, b)
		pack.Find(a, sum("b"))
		pack.Find(b, "")
		if !slices.Equal(a[:cap(a)], givenA) || !slices.Equal(b[:cap(b)], givenB) {
			t.Error("slots that were given are changed")
		}
	}
}

// TestNewMemory: 0.5, slots are told anew each time, and an empty list is none.
func TestNewMemory(t *testing.T) {
	s := packed("a", "b", "a") + "x"
	first, _ := pack.Scan(s)
	again, _ := pack.Scan(s)
	want := slices.Clone(again)
	for i := range first[:cap(first)] {
		first[:cap(first)][i] = slot("spoilt", 1, 2)
	}
	if !slices.Equal(again, want) {
		t.Error("Scan tells one list twice")
	}
	checkScan(t, s, want, 114)
	for _, none := range []string{"", "x", framed("a"), packed("a")[:37]} {
		if l, end := pack.Scan(none); l != nil || end != 0 {
			t.Errorf("Scan of %.8x = %v, %d", none, l, end)
		}
	}
}

// TestAny: 0.1, any arguments: each call ends, and none panics.
func TestAny(t *testing.T) {
	r := rand.New(rand.NewPCG(17, 9))
	texts := []string{"", "x", bytes(1 << 20), strings.Repeat("\x80", 1<<20), strings.Repeat("\xff", 1<<20), strings.Repeat("\x00", 1<<20), strings.Repeat(framed(""), 1<<17), packed("a") + bytes(1<<20-38), mixed(r, 1<<20), "\x80\x80\x04" + bytes(1<<20-3), "\xff\xff\xff\xff\xff\xff\xff\xff\xff\x01"}
	numbers := []int{0, 1, -1, 38, 1 << 20, 1<<20 + 1, 1 << 31, 1 << 62, math.MaxInt, math.MaxInt - 1, math.MinInt, math.MinInt + 1}
	var slots []api.Slot
	for _, key := range []string{"", "x", sum("a"), bytes(1 << 20)} {
		for _, at := range numbers {
			for _, size := range numbers {
				slots = append(slots, slot(key, at, size))
			}
		}
	}
	done := make(chan bool)
	go func() {
		defer close(done)
		for _, s := range texts {
			pack.Scan(s)
			pack.Find(slots, s)
			pack.Wrap([]api.Object{{Key: s, Raw: s}, {Key: s}, {Raw: s}, object(s)})
			for _, x := range slots {
				pack.Take(s, x)
			}
		}
		pack.Wrap(slices.Repeat(objects("", bytes(2000)), 1<<10))
		for range 200 {
			r.Shuffle(len(slots), func(i, k int) { slots[i], slots[k] = slots[k], slots[i] })
			l := slots[:r.IntN(len(slots))]
			for _, key := range texts {
				pack.Find(l, key)
			}
			pack.Same(l, slots)
		}
	}()
	select {
	case <-done:
	case <-time.After(60 * time.Second):
		t.Fatal("a call does not end")
	}
}
