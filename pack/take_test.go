package pack_test

import (
	"math"
	"math/rand/v2"
	"slices"
	"strings"
	"testing"

	"silo/api"
	"silo/pack"
)

// find is what P17.3 asks of Find, by looking at each.
func find(l []api.Slot, key string) (api.Slot, bool) {
	for _, x := range l {
		if x.Key == key {
			return x, true
		}
	}
	return api.Slot{}, false
}

// checkFind holds Find against what is wanted.
func checkFind(t *testing.T, l []api.Slot, key string) {
	t.Helper()
	want, there := find(l, key)
	if got, found := pack.Find(l, key); got != want || found != there {
		t.Errorf("Find(%s, %.4x) = %v, %v, want %v, %v", short(l), key, got, found, want, there)
	}
}

// TestFind: P17.3, each key of each set of slots, and those that are not there: none of another, nothing beside false.
func TestFind(t *testing.T) {
	k := func(b byte) string { return strings.Repeat(string([]byte{b}), keySize) }
	all := []string{"", "\x00", k(0), k(0)[:31] + "\x01", k(0) + "\x00", k('a')[:31], k('a')[:31] + "\x00", k('a'), k(0x7f), k(0x80), k(0xff)}
	slices.Sort(all)
	for set := range 1 << len(all) {
		var l []api.Slot
		for i, key := range all {
			if set>>i&1 == 1 {
				l = append(l, slot(key, 40*i, 37+i))
			}
		}
		for _, key := range all {
			checkFind(t, l, key)
		}
		for _, key := range []string{"\x01", k('b'), k('a') + "a", k(0xff) + "\x00"} {
			checkFind(t, l, key)
		}
	}
}

// TestFindMany: P17.3, in as many slots as a pack may have.
func TestFindMany(t *testing.T) {
	r := rand.New(rand.NewPCG(17, 5))
	var l []api.Slot
	for i := range 1 << 15 {
		l = append(l, slot(sum(string([]byte{byte(i), byte(i >> 8)})), i, i+1))
	}
	l = sorted(l...)
	for i, x := range l {
		if got, found := pack.Find(l, x.Key); got != x || !found {
			t.Fatalf("Find of slot %d of %d = %v, %v", i, len(l), got, found)
		}
		other := turned(x.Key, r.IntN(keySize), 1<<r.IntN(8))
		if got, found := pack.Find(l, other); got != (api.Slot{}) || found {
			t.Fatalf("Find of a key that is not there = %v, %v", got, found)
		}
	}
}

// take is what P17.3 asks of Take.
func take(s string, x api.Slot) (string, api.Errno) {
	n := uint64(len(s))
	if x.At < 0 || x.Size < 0 || uint64(x.At)+uint64(x.Size) > n {
		return "", api.ErrRange
	}
	text, size := opened(s[x.At : x.At+x.Size])
	switch {
	case size == 0 || size != x.Size || len(text) < keySize:
		return "", api.ErrForm
	case text[:keySize] != x.Key || sum(text[keySize:]) != text[:keySize]:
		return "", api.ErrKey
	}
	return text[keySize:], api.OK
}

// checkTake holds Take against what is wanted.
func checkTake(t *testing.T, s string, x api.Slot, want string, err api.Errno) {
	t.Helper()
	got, gotErr := pack.Take(s, x)
	if got != want || gotErr != err {
		t.Errorf("Take of %s from %d bytes %.16x = %d bytes %.16x, %v, want %d bytes %.16x, %v", short([]api.Slot{x}), len(s), s, len(got), got, gotErr, len(want), want, err)
	}
}

// TestTake: P17.3, the bytes behind the key, wherever the frame is, whatever is ahead and behind.
func TestTake(t *testing.T) {
	r := rand.New(rand.NewPCG(17, 6))
	for _, raw := range []string{"", "a", "\x00", sum("a"), packed("a"), mixed(r, 95), mixed(r, 96), mixed(r, 5000), bytes(65504)} {
		f := packed(raw)
		for _, ahead := range []string{"", "\x00", "torn", packed("b"), mixed(r, 300)} {
			for _, behind := range []string{"", "\x00", f, mixed(r, 50)} {
				checkTake(t, ahead+f+behind, slot(sum(raw), len(ahead), len(f)), raw, api.OK)
			}
		}
	}
}

// TestTakeRange: P17.3, places out of bounds, those whose sum is no number among them, ahead of all else that is wrong.
func TestTakeRange(t *testing.T) {
	a := sum("a")
	for _, s := range []string{"", "x", packed("a"), packed("a") + "x", framed("a"), framed(a + "b"), a + "a"} {
		n := len(s)
		for _, key := range []string{a, "", sum("b")} {
			for _, c := range [][2]int{
				{-1, 38}, {-1, 0}, {0, -1}, {-1, -1}, {38, -38}, {-38, 38}, {n, -n - 1}, {-n - 1, n}, {n + 1, -1}, {-1, n + 1},
				{0, n + 1}, {1, n}, {n, 1}, {n + 1, 0}, {n - n/2, n/2 + 1},
				{math.MaxInt, 0}, {0, math.MaxInt}, {math.MaxInt, 1}, {1, math.MaxInt}, {math.MaxInt, math.MaxInt}, {math.MaxInt, 38},
				{math.MinInt, 0}, {0, math.MinInt}, {math.MinInt, math.MinInt}, {math.MinInt, math.MaxInt}, {math.MaxInt, math.MinInt}, {math.MinInt, 38}, {38, math.MinInt},
				{1 << 62, 1 << 62}, {1<<62 + 1, 1<<62 + 37}, {1 << 32, 0}, {0, 1 << 32}, {1 << 32, 38}, {0, 1<<32 + 38},
			} {
				checkTake(t, s, slot(key, c[0], c[1]), "", api.ErrRange)
			}
		}
	}
}

// TestTakeForm: P17.3, what is not just one frame, or has no key, ahead of what its key is.
func TestTakeForm(t *testing.T) {
	a := sum("a")
	f := packed("a")
	for _, key := range []string{a, "", sum(""), sum("b")} {
		for _, s := range []string{
			"", "x", f + "\x00", "\x00" + f, f + f, f + framed(""), framed("") + f, framed("") + framed(""), packed("a", "b"), f[:37], f[1:], f[:34], f + f[:5],
			turned(f, 37, 1), turned(f, 1, 1), turned(f, 33, 1), turned(f, 0, 1), turned(f, 0, 0x80), sealed("\xa1\x00" + a + "a"), framed(a + bytes(65505)),
			framed(""), framed("a"), framed(a[:31]), framed(a[1:]), framed(sum("")[:31]), framed(bytes(31)),
		} {
			checkTake(t, s, slot(key, 0, len(s)), "", api.ErrForm)
			checkTake(t, packed("b")+s+f, slot(key, 38, len(s)), "", api.ErrForm)
		}
		checkTake(t, f, slot(key, 38, 0), "", api.ErrForm)
		checkTake(t, f, slot(key, 0, 0), "", api.ErrForm)
	}
	for _, s := range []string{framed(""), framed("a"), framed(a[:31])} {
		text, _ := opened(s)
		checkTake(t, s, slot(text, 0, len(s)), "", api.ErrForm)
	}
}

// TestTakeKey: P17.3, a frame of another key, or of bytes that have another sum.
func TestTakeKey(t *testing.T) {
	a, b := sum("a"), sum("b")
	f := packed("a")
	for _, key := range []string{b, "", "a", a[:31], a[1:], a + "\x00", a + "a", strings.Repeat("\x00", 32), turned(a, 0, 0x80), turned(a, 31, 1), bytes(1 << 20)} {
		checkTake(t, f, slot(key, 0, 38), "", api.ErrKey)
		checkTake(t, packed("b")+f+f, slot(key, 38, 38), "", api.ErrKey)
	}
	for at := range keySize {
		for bit := range 8 {
			other := turned(a, at, 1<<bit)
			checkTake(t, framed(other+"a"), slot(other, 0, 38), "", api.ErrKey)
			checkTake(t, framed(other+"a"), slot(a, 0, 38), "", api.ErrKey)
			checkTake(t, f, slot(other, 0, 38), "", api.ErrKey)
		}
	}
	for _, text := range []string{a, a + "b", a + "aa", b + "a", strings.Repeat("\x00", 32), sum(a+"a") + "a", "a" + a, bytes(32), bytes(mostText)} {
		s := framed(text)
		for _, key := range []string{text[:32], a, b, sum(text[32:]), sum(text), ""} {
			checkTake(t, s, slot(key, 0, len(s)), "", api.ErrKey)
		}
	}
}

// TestTakeEach: P17.3, each place and size around a pack's.
func TestTakeEach(t *testing.T) {
	for _, s := range []string{"", packed("a", ""), packed("a") + framed("b"), framed("") + packed(""), framed(sum("a")+"b") + packed("b")} {
		for at := -2; at <= len(s)+2; at++ {
			for size := -2; size <= len(s)+2; size++ {
				for _, key := range []string{sum("a"), sum(""), ""} {
					x := slot(key, at, size)
					want, err := take(s, x)
					checkTake(t, s, x, want, err)
				}
			}
		}
	}
}

// TestSame: P17.3, slots are alike in all that they have, in order.
func TestSame(t *testing.T) {
	a, b := slot(sum("a"), 0, 38), slot(sum("b"), 38, 38)
	lists := [][]api.Slot{
		nil, {{}}, {a}, {b}, {a, b}, {b, a}, {a, a}, {a, a, b}, {a, b, b}, {slot("", 0, 38)}, {slot(sum("a"), 1, 38)}, {slot(sum("a"), 0, 39)}, {slot(sum("a"), 38, 0)}, {slot(sum("b"), 0, 38)},
		{slot(sum("a")[:31], 0, 38)}, {slot(turned(sum("a"), 31, 1), 0, 38)}, {slot(sum("a"), -1, 38)}, {slot(sum("a"), 0, -38)}, {slot(sum("a"), 1<<32, 38)}, {slot(sum("a"), 0, 1<<32+38)}, {a, slot(sum("b"), 38, 39)}, {a, slot(sum("b"), 37, 38)}, {a, slot("", 38, 38)}, {a, {}},
	}
	for i, x := range lists {
		for k, y := range lists {
			if got := pack.Same(slices.Clone(x), slices.Clone(y)); got != (i == k) {
				t.Errorf("Same(%s, %s) = %v", short(x), short(y), got)
			}
		}
	}
	if !pack.Same(nil, []api.Slot{}) || !pack.Same([]api.Slot{}, nil) {
		t.Error("no slots are not the same as no slots")
	}
}

// TestThereAndBack: P17.4, Scan finds each object, and Take of its slot is its bytes, with any bytes behind.
func TestThereAndBack(t *testing.T) {
	r := rand.New(rand.NewPCG(17, 7))
	for range 150 {
		var l []api.Object
		for range r.IntN(9) {
			x := object(mixed(r, r.IntN(1<<r.IntN(11))))
			l = append(l, slices.Repeat([]api.Object{x}, 1+r.IntN(2))...)
		}
		r.Shuffle(len(l), func(i, k int) { l[i], l[k] = l[k], l[i] })
		s := pack.Wrap(l)
		for _, behind := range []string{"", "\x00", mixed(r, 1+r.IntN(40)), packed("z"), s} {
			slots, end := pack.Scan(s + behind)
			if end < len(s) {
				t.Errorf("Scan of %d bytes and %d behind ends at %d", len(s), len(behind), end)
			}
			for _, x := range l {
				y, found := pack.Find(slots, x.Key)
				if !found || y.Key != x.Key {
					t.Errorf("%.4x is not found in %s", x.Key, short(slots))
				}
				checkTake(t, s+behind, y, x.Raw, api.OK)
				checkTake(t, s, y, x.Raw, api.OK)
			}
			for i := 1; i < len(slots); i++ {
				if slots[i-1].Key >= slots[i].Key {
					t.Errorf("%s does not rise", short(slots))
				}
			}
		}
	}
}

// TestThereAndBackLong: P17.4, of the greatest objects, those that are too long being left out.
func TestThereAndBackLong(t *testing.T) {
	r := rand.New(rand.NewPCG(17, 8))
	var l []api.Object
	for i := range 12 {
		l = append(l, object(mixed(r, mostText-keySize+i%2)))
	}
	s := pack.Wrap(l)
	slots, end := pack.Scan(s + "\x00")
	if len(slots) != 6 || end != 6*65543 || len(s) != end {
		t.Errorf("%d slots in %d bytes of %d", len(slots), end, len(s))
	}
	for i, x := range l {
		y, found := pack.Find(slots, x.Key)
		if found != (i%2 == 0) {
			t.Errorf("object %d is found: %v", i, found)
		}
		if found {
			checkTake(t, s, y, x.Raw, api.OK)
		}
	}
}
