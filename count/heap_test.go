package count_test

import (
	"crypto/sha256"
	"fmt"
	"maps"
	"math/rand/v2"
	"slices"
	"strings"
	"testing"
	"time"

	"silo/api"
	"silo/count"
	"silo/node"
)

// What the chapters name.
const (
	keySize     = 32
	mostRoots   = 1000
	mostParts   = 1024
	mostObjects = 1 << 16
)

func object(key, raw string) api.Object { return api.Object{Key: key, Raw: raw} }

func asked(key string, n int) api.Count { return api.Count{Key: key, N: n} }

// key is a key of one byte, again and again.
func key(b byte) string { return strings.Repeat(string([]byte{b}), keySize) }

// numbered is a key that tells a number.
func numbered(n int) string { return fmt.Sprintf("%032d", n) }

// sum is a text's sum, as the library tells it.
func sum(s string) string {
	b := sha256.Sum256([]byte(s))
	return string(b[:])
}

// pieceBytes is a piece as bytes.
func pieceBytes(s string) string { return node.Write(api.Node{Kind: api.NdPiece, Data: s}) }

// fileBytes is a file as bytes, of which the pieces have these keys.
func fileBytes(l ...string) string {
	n := api.Node{Kind: api.NdFile}
	for _, k := range l {
		n.Parts = append(n.Parts, api.Part{Key: k, Size: 1})
	}
	return node.Write(n)
}

// dirBytes is a directory as bytes, in which these keys are directories and files by turns.
func dirBytes(l ...string) string {
	n := api.Node{Kind: api.NdDir}
	for i, k := range l {
		n.Entries = append(n.Entries, api.Entry{Name: fmt.Sprintf("%02d", i), Kind: api.NdDir - i%2, Key: k})
	}
	return node.Write(n)
}

// heap is objects' bytes by their keys.
type heap map[string]string

// raw is the key of bytes, which are put in.
func (h heap) raw(s string) string {
	k := sum(s)
	h[k] = s
	return k
}

func (h heap) piece(s string) string { return h.raw(pieceBytes(s)) }

func (h heap) file(l ...string) string { return h.raw(fileBytes(l...)) }

func (h heap) dir(l ...string) string { return h.raw(dirBytes(l...)) }

// list is the objects, by their keys.
func (h heap) list() []api.Object {
	var l []api.Object
	for _, k := range slices.Sorted(maps.Keys(h)) {
		l = append(l, object(k, h[k]))
	}
	return l
}

// with is all objects, that of a key having other bytes.
func (h heap) with(k, raw string) heap {
	other := maps.Clone(h)
	other[k] = raw
	return other
}

// without is all objects but that of a key.
func (h heap) without(k string) heap {
	other := maps.Clone(h)
	delete(other, k)
	return other
}

// named is the keys that a key's object names; false: it is not there, or no node.
func (h heap) named(k string) (map[string]bool, bool) {
	raw, there := h[k]
	n, err := node.Read(raw)
	l := map[string]bool{}
	for _, x := range n.Parts {
		l[x.Key] = true
	}
	for _, x := range n.Entries {
		l[x.Key] = true
	}
	return l, there && err == api.OK
}

// counts is the counts of roots as the chapter words them; false: something is not there, or no node.
func (h heap) counts(roots []string) ([]api.Count, bool) {
	n := map[string]int{}
	for _, k := range roots {
		if len(k) == keySize {
			n[k]++
		}
	}
	done, waiting := map[string]bool{}, slices.Collect(maps.Keys(n))
	for len(waiting) > 0 {
		k := waiting[len(waiting)-1]
		waiting = waiting[:len(waiting)-1]
		if done[k] {
			continue
		}
		done[k] = true
		l, is := h.named(k)
		if !is {
			return nil, false
		}
		for kid := range l {
			n[kid]++
			waiting = append(waiting, kid)
		}
	}
	return told(n), true
}

// less is P14.3 as the chapter words it.
func (h heap) less(n map[string]int, k string) {
	n[k]--
	if n[k] > 0 {
		return
	}
	delete(n, k)
	l, _ := h.named(k)
	for kid := range l {
		if n[kid] > 0 {
			h.less(n, kid)
		}
	}
}

// told is counts, rising by key.
func told(n map[string]int) []api.Count {
	var l []api.Count
	for _, k := range slices.Sorted(maps.Keys(n)) {
		l = append(l, asked(k, n[k]))
	}
	return l
}

// minus is P14.3 of counts that are fit.
func (h heap) minus(c []api.Count, k string) ([]api.Count, api.Errno) {
	n := map[string]int{}
	for _, x := range c {
		n[x.Key] = x.N
	}
	if n[k] == 0 {
		return c, api.ErrNone
	}
	h.less(n, k)
	return told(n), api.OK
}

// short is counts in words that can be read in a failure.
func short(l []api.Count) string {
	var out strings.Builder
	fmt.Fprintf(&out, "%d:", len(l))
	for _, x := range l[:min(len(l), 12)] {
		fmt.Fprintf(&out, " %.4x*%d", x.Key, x.N)
	}
	return out.String()
}

// roomy is counts that have room behind them, in which others stand.
func roomy(c []api.Count) []api.Count {
	all := append(slices.Clone(c), asked("behind", 1), asked("behind", 2))
	return all[:len(c)]
}

// spoil changes all of an answer, and the room behind it.
func spoil(c []api.Count) {
	for i := range c[:cap(c)] {
		c[:cap(c)][i] = asked("spoilt", i)
	}
}

// checkOf holds Of against what is wanted.
func checkOf(t *testing.T, name string, l []api.Object, roots []string, want []api.Count, all bool) {
	t.Helper()
	given, from := slices.Clone(l), slices.Clone(roots)
	got, gotAll := count.Of(l, roots)
	if gotAll != all || !slices.Equal(got, want) {
		t.Fatalf("%s: Of %d roots = %s, %v, want %s, %v", name, len(roots), short(got), gotAll, short(want), all)
	}
	if !slices.Equal(l, given) || !slices.Equal(roots, from) {
		t.Fatalf("%s: Of changed what it was given", name)
	}
}

// change is Plus or Minus.
type change func(c []api.Count, l []api.Object, root string) ([]api.Count, api.Errno)

// checkChange holds a change against what is wanted, and its answer's memory against what it was given.
func checkChange(t *testing.T, name string, do change, c []api.Count, l []api.Object, root string, want []api.Count, err api.Errno) {
	t.Helper()
	given, objects := roomy(c), slices.Clone(l)
	got, gotErr := do(given, l, root)
	if gotErr != err || !slices.Equal(got, want) {
		t.Fatalf("%s: of %s and %.4x = %s, %v, want %s, %v", name, short(c), root, short(got), gotErr, short(want), err)
	}
	spoil(got)
	if !slices.Equal(given, c) || !slices.Equal(given[:cap(given)], roomy(c)[:cap(given)]) || !slices.Equal(l, objects) {
		t.Fatalf("%s: of %s and %.4x changed what it was given", name, short(c), root)
	}
}

// checkPlus holds Plus against what is wanted.
func checkPlus(t *testing.T, name string, c []api.Count, l []api.Object, root string, want []api.Count, err api.Errno) {
	t.Helper()
	checkChange(t, name+": Plus", count.Plus, c, l, root, want, err)
}

// checkMinus holds Minus against what is wanted.
func checkMinus(t *testing.T, name string, c []api.Count, l []api.Object, root string, want []api.Count, err api.Errno) {
	t.Helper()
	checkChange(t, name+": Minus", count.Minus, c, l, root, want, err)
}

// inTime fails if a call does not end.
func inTime(t *testing.T, call func()) {
	t.Helper()
	done := make(chan bool)
	go func() {
		defer close(done)
		call()
	}()
	select {
	case <-done:
	case <-time.After(60 * time.Second):
		t.Fatal("a call does not end")
	}
}

// noNodes are bytes that are no node's.
func noNodes() []string {
	return []string{"", "\x00", "\x01", "\x02", "\x03", "\x04\x00", "\x00x", "x", "\x02\x01", "\x02\x00\x00", "\x02\x01" + key(1), "\x02\x01" + key(1) + "\x00", "\x02\x02" + key(1) + "\x01", "\x03\x01\x01a\x01" + key(1), "\x03\x01\x01/\x02" + key(1), "\x03\x00\x03\x00"}
}

// strange are texts that are no keys.
func strange() []string {
	return []string{"", "x", key(1)[1:], key(1) + "\x00", key(0) + key(1), sum("x")[:31], strings.Repeat("x", 65536)}
}

// anyHeap is objects of all kinds that name those ahead of them, by their sums, and their keys.
func anyHeap(r *rand.Rand, n int) (heap, []string) {
	h := heap{}
	all := []string{h.piece("a")}
	for len(all) < n {
		var kids []string
		for range r.IntN(6) {
			kids = append(kids, all[max(0, len(all)-1-r.IntN(1+r.IntN(len(all))))])
		}
		switch r.IntN(4) {
		case 0:
			all = append(all, h.piece(fmt.Sprint(r.IntN(n))))
		case 1:
			all = append(all, h.file(kids...))
		default:
			all = append(all, h.dir(kids...))
		}
	}
	return h, all
}

// ringHeap is objects that name one another without any order, rings among them, as no key is a sum; now and then one is not there, or no node.
func ringHeap(r *rand.Rand, n, odds int) (heap, []string) {
	h := heap{}
	var all []string
	for i := range n {
		var kids []string
		for range r.IntN(4) {
			kids = append(kids, key(byte(r.IntN(n))))
		}
		k := key(byte(i))
		all = append(all, k)
		h[k] = []string{pieceBytes("x"), fileBytes(kids...), dirBytes(kids...)}[r.IntN(3)]
		if odds > 0 && r.IntN(odds) == 0 {
			h[k] = noNodes()[r.IntN(len(noNodes()))]
		}
		if odds > 0 && r.IntN(odds) == 0 {
			delete(h, k)
		}
	}
	return h, all
}

// some is so many of these, perhaps some more than once.
func some(r *rand.Rand, l []string, n int) []string {
	var out []string
	for range n {
		out = append(out, l[r.IntN(len(l))])
	}
	return out
}
