package pack_test

import (
	"crypto/sha256"
	"encoding/binary"
	"encoding/hex"
	"fmt"
	"hash/crc32"
	"math/rand/v2"
	"slices"
	"strings"
	"testing"

	"silo/api"
	"silo/pack"
)

// What the document names.
const (
	mostText = 65536
	keySize  = 32
)

func bytes(n int) string { return strings.Repeat("q", n) }

func slot(key string, at, size int) api.Slot { return api.Slot{Key: key, At: at, Size: size} }

// sum is a text's sum, as the library tells it.
func sum(s string) string {
	b := sha256.Sum256([]byte(s))
	return string(b[:])
}

// object is bytes by their sum.
func object(raw string) api.Object { return api.Object{Key: sum(raw), Raw: raw} }

// objects are bytes by their sums.
func objects(l ...string) []api.Object {
	var out []api.Object
	for _, raw := range l {
		out = append(out, object(raw))
	}
	return out
}

// sealed is bytes with their checksum behind.
func sealed(body string) string {
	c := crc32.Checksum([]byte(body), crc32.MakeTable(crc32.Castagnoli))
	return body + string(binary.LittleEndian.AppendUint32(nil, c))
}

// framed is the frames of texts, one behind the other, as chapter 3 has them, however long these are.
func framed(l ...string) string {
	var out strings.Builder
	for _, s := range l {
		out.WriteString(sealed(string(binary.AppendUvarint(nil, uint64(len(s)))) + s))
	}
	return out.String()
}

// packed is the frames of objects of such bytes.
func packed(l ...string) string {
	var out strings.Builder
	for _, raw := range l {
		out.WriteString(framed(sum(raw) + raw))
	}
	return out.String()
}

// unhex is bytes by their digits.
func unhex(s string) string {
	b, err := hex.DecodeString(s)
	if err != nil {
		panic(err)
	}
	return string(b)
}

// mixed is n bytes of all kinds.
func mixed(r *rand.Rand, n int) string {
	l := make([]byte, n)
	for i := range l {
		l[i] = byte(r.Uint32())
	}
	return string(l)
}

// turned is s with the bits of mask turned in its byte at.
func turned(s string, at int, mask byte) string {
	l := []byte(s)
	l[at] ^= mask
	return string(l)
}

// opened is the text of the frame that s begins with, and how many bytes that has, as chapter 3 words it; 0: there is none.
func opened(s string) (string, int) {
	size, head := binary.Uvarint([]byte(s[:min(len(s), binary.MaxVarintLen64)]))
	if head <= 0 || head > 1 && s[head-1] == 0 || size > mostText {
		return "", 0
	}
	end := head + int(size)
	if len(s) < end+4 || sealed(s[:end]) != s[:end+4] {
		return "", 0
	}
	return s[head:end], end + 4
}

// scanned is what P17.2 asks of Scan.
func scanned(s string) ([]api.Slot, int) {
	firsts := map[string]api.Slot{}
	at := 0
	for {
		text, size := opened(s[at:])
		if size == 0 || len(text) < keySize || text[:keySize] != sum(text[keySize:]) {
			break
		}
		if _, there := firsts[text[:keySize]]; !there {
			firsts[text[:keySize]] = slot(text[:keySize], at, size)
		}
		at += size
	}
	var l []api.Slot
	for _, x := range firsts {
		l = append(l, x)
	}
	slices.SortFunc(l, func(a, b api.Slot) int { return strings.Compare(a.Key, b.Key) })
	return l, at
}

// short are slots in words that can be read in a failure.
func short(l []api.Slot) string {
	var out strings.Builder
	for i, x := range l {
		if i == 6 {
			fmt.Fprintf(&out, "and %d more", len(l)-i)
			break
		}
		fmt.Fprintf(&out, "%.4x.. at %d, %d; ", x.Key, x.At, x.Size)
	}
	return "[" + out.String() + "]"
}

// checkScan holds Scan against what is wanted.
func checkScan(t *testing.T, s string, want []api.Slot, wantEnd int) {
	t.Helper()
	got, end := pack.Scan(s)
	if !slices.Equal(got, want) || end != wantEnd {
		t.Errorf("Scan of %d bytes %.16x = %s, %d, want %s, %d", len(s), s, short(got), end, short(want), wantEnd)
	}
}

// TestExample: the chapter's example.
func TestExample(t *testing.T) {
	if s := pack.Wrap(nil); s != "" {
		t.Errorf("Wrap of nothing = %x", s)
	}
	checkScan(t, "", nil, 0)
	l, end := pack.Scan(pack.Wrap(objects("x")))
	if end != 38 || !slices.Equal(l, []api.Slot{slot(sum("x"), 0, 38)}) {
		t.Errorf("Scan of the object of x = %s, %d", short(l), end)
	}
}

// Frames of the objects of nothing, x and abc, worked out outside the program.
const (
	ofNone = "20e3b0c44298fc1c149afbf4c8996fb92427ae41e4649b934ca495991b7852b855c8f60b69"
	ofX    = "212d711642b726b04401627ca9fbac32f5c8530fb1903cc4db02258717921a488178196ba328"
	ofAbc  = "23ba7816bf8f01cfea414140de5dae2223b00361a396177a9cb410ff61f20015ad6162631678972f"
)

// TestBytes: P17.1 to P17.3, a pack that is known, byte by byte.
func TestBytes(t *testing.T) {
	s := unhex(ofX + ofAbc + ofNone)
	l := objects("x", "abc", "")
	if got := pack.Wrap(l); got != s {
		t.Errorf("Wrap = %x, want %x", got, s)
	}
	checkScan(t, s, []api.Slot{slot(l[0].Key, 0, 38), slot(l[1].Key, 38, 40), slot(l[2].Key, 78, 37)}, 115)
	checkScan(t, unhex(ofNone+ofAbc+ofX), []api.Slot{slot(l[0].Key, 77, 38), slot(l[1].Key, 37, 40), slot(l[2].Key, 0, 37)}, 115)
	for i, x := range []api.Slot{slot(l[0].Key, 0, 38), slot(l[1].Key, 38, 40), slot(l[2].Key, 78, 37)} {
		if raw, err := pack.Take(s, x); raw != l[i].Raw || err != api.OK {
			t.Errorf("Take of %s = %q, %v", short([]api.Slot{x}), raw, err)
		}
	}
}

// TestWrap: P17.1, 0.1, objects of any keys and bytes, in order, none left out but those that are too long.
func TestWrap(t *testing.T) {
	key, other := sum("a"), sum("b")
	for _, c := range []struct {
		l    []api.Object
		want string
	}{
		{nil, ""},
		{[]api.Object{}, ""},
		{objects("b", "a"), framed(other+"b", key+"a")},
		{objects("a", "a", "b", "a"), framed(key+"a", key+"a", other+"b", key+"a")},
		{[]api.Object{{}}, framed("")},
		{[]api.Object{{}, {}}, framed("", "")},
		{[]api.Object{{Key: key}}, framed(key)},
		{[]api.Object{{Raw: "a"}}, framed("a")},
		{[]api.Object{{Key: key, Raw: "b"}}, framed(key + "b")},
		{[]api.Object{{Key: "k", Raw: "a"}, {Key: key + "k", Raw: "\x00\xff"}}, framed("ka", key+"k\x00\xff")},
		{[]api.Object{{Key: bytes(mostText)}}, framed(bytes(mostText))},
		{[]api.Object{{Raw: bytes(mostText)}}, framed(bytes(mostText))},
		{[]api.Object{{Key: bytes(mostText - 1), Raw: "q"}}, framed(bytes(mostText))},
		{[]api.Object{{Key: key, Raw: bytes(mostText - keySize)}}, framed(key + bytes(mostText-keySize))},
		{[]api.Object{{Key: key, Raw: bytes(mostText - keySize + 1)}}, ""},
		{[]api.Object{{Key: bytes(mostText + 1)}, {Raw: bytes(mostText + 1)}, {Key: bytes(mostText), Raw: "q"}, {Key: "q", Raw: bytes(mostText)}}, ""},
		{[]api.Object{{Key: bytes(1 << 20), Raw: bytes(1 << 20)}}, ""},
		{slices.Concat(objects("a", bytes(mostText)), []api.Object{{Key: bytes(mostText + 1)}, {}}, objects("b", bytes(1<<20))), framed(key+"a", "", other+"b")},
	} {
		if got := pack.Wrap(c.l); got != c.want {
			t.Errorf("Wrap of %d objects: %d bytes %.40x, want %d %.40x", len(c.l), len(got), got, len(c.want), c.want)
		}
	}
}

// TestWrapAny: P17.1, lists of objects whose keys and bytes are anything.
func TestWrapAny(t *testing.T) {
	r := rand.New(rand.NewPCG(17, 1))
	for range 300 {
		var l []api.Object
		var want strings.Builder
		for range r.IntN(8) {
			x := api.Object{Key: mixed(r, r.IntN(40)), Raw: mixed(r, r.IntN(300))}
			l = append(l, x)
			want.WriteString(framed(x.Key + x.Raw))
		}
		if got := pack.Wrap(l); got != want.String() {
			t.Errorf("Wrap of %d objects: %d bytes, want %d", len(l), len(got), want.Len())
		}
	}
}

// TestScan: P17.2, slots rise by key, whatever the order of the objects, and those of one key are the first's.
func TestScan(t *testing.T) {
	texts := []string{"", "a", "b", "cd", bytes(95), bytes(96), bytes(300)}
	r := rand.New(rand.NewPCG(17, 2))
	for range 200 {
		r.Shuffle(len(texts), func(i, k int) { texts[i], texts[k] = texts[k], texts[i] })
		l := texts[:r.IntN(len(texts)+1)]
		s := packed(l...)
		want, end := scanned(s)
		if end != len(s) || len(want) != len(l) {
			t.Fatalf("the tests take %d objects in %d bytes to be %d in %d", len(l), len(s), len(want), end)
		}
		checkScan(t, s, want, end)
	}
	a, b := sum("a"), sum("b")
	if a[0] < 0x80 || b[0] >= 0x80 {
		t.Fatalf("the keys begin with %x and %x", a[0], b[0])
	}
	checkScan(t, packed("a", "b"), []api.Slot{slot(b, 38, 38), slot(a, 0, 38)}, 76)
	checkScan(t, packed("b", "a"), []api.Slot{slot(b, 0, 38), slot(a, 38, 38)}, 76)
}

// TestScanTwice: P17.2, of the objects of one key the first has the slot, and all of them are among the bytes.
func TestScanTwice(t *testing.T) {
	a, b := sum("a"), sum("b")
	checkScan(t, packed("a", "a"), []api.Slot{slot(a, 0, 38)}, 76)
	checkScan(t, packed("a", "b", "a"), []api.Slot{slot(b, 38, 38), slot(a, 0, 38)}, 114)
	checkScan(t, packed("b", "a", "a", "b", "b"), []api.Slot{slot(b, 0, 38), slot(a, 38, 38)}, 190)
	checkScan(t, packed("a", "a", "a", "b")+"x", []api.Slot{slot(b, 114, 38), slot(a, 0, 38)}, 152)
	many := slices.Repeat([]string{"", "b", "a", "", "a"}, 50)
	checkScan(t, packed(many...), []api.Slot{slot(b, 37, 38), slot(a, 75, 38), slot(sum(""), 0, 37)}, 50*(2*37+3*38))
}

// nones are what is no object's frame: torn ones, and whole ones without a key, or with another one's bytes.
func nones() map[string]string {
	a := sum("a")
	return map[string]string{
		"a byte":                      "\x00",
		"a length's first byte":       "\x80",
		"a frame's beginning":         packed("a")[:20],
		"a frame but its last byte":   packed("a")[:37],
		"no checksum":                 packed("a")[:34],
		"another checksum":            turned(packed("a"), 37, 1),
		"another byte":                turned(packed("a"), 33, 1),
		"another key, torn":           turned(packed("a"), 1, 1),
		"a frame without its length":  packed("a")[1:],
		"a length of more than need":  sealed("\xa1\x00" + a + "a"),
		"a text that is too long":     framed(sum(bytes(mostText)) + bytes(mostText)),
		"zeros":                       strings.Repeat("\x00", 100),
		"a frame of nothing":          framed(""),
		"a frame of a byte":           framed("a"),
		"a frame of 31 bytes":         framed(a[:31]),
		"a frame of 31 bytes of none": framed(sum("")[:31]),
		"a key alone":                 framed(a),
		"a key and another's bytes":   framed(a + "b"),
		"a key and bytes, and more":   framed(a + "aa"),
		"a key that is one bit off":   framed(turned(a, 31, 1) + "a"),
		"a key, its first bit off":    framed(turned(a, 0, 0x80) + "a"),
		"a key in digits":             framed(hex.EncodeToString([]byte(a)) + "a"),
		"bytes, and then their key":   framed("a" + a),
		"the sum of key and bytes":    framed(sum(a+"a") + "a"),
		"an object's frame, framed":   framed(packed("a")),
	}
}

// TestScanStops: P17.2, at the first frame that is not whole, or no object's, whatever is behind.
func TestScanStops(t *testing.T) {
	b, c := sum("b"), sum("cc")
	for name, none := range nones() {
		for _, behind := range []string{"", "\x00", packed("d"), packed("b", "e")} {
			if _, end := scanned(none + behind); end != 0 {
				t.Fatalf("%s: the tests take it to be an object's", name)
			}
			checkScan(t, none+behind, nil, 0)
			checkScan(t, packed("b")+none+behind, []api.Slot{slot(b, 0, 38)}, 38)
			checkScan(t, packed("b", "cc", "b")+none+behind, []api.Slot{slot(c, 38, 39), slot(b, 0, 38)}, 115)
		}
	}
}

// TestScanTorn: P17.2, P17.4, a pack that is cut anywhere, or has another byte anywhere.
func TestScanTorn(t *testing.T) {
	r := rand.New(rand.NewPCG(17, 3))
	s := packed("", "a", mixed(r, 100), "a", "b", mixed(r, 20))
	for cut := range len(s) + 1 {
		want, end := scanned(s[:cut])
		checkScan(t, s[:cut], want, end)
	}
	for at := range s {
		for _, mask := range []byte{1, 2, 0x10, 0x80, 0xff} {
			other := turned(s, at, mask)
			want, end := scanned(other)
			if end >= at && end == len(s) {
				t.Fatalf("a pack with another byte at %d goes through", at)
			}
			checkScan(t, other, want, end)
		}
	}
}

// TestScanAny: P17.2, 0.1, bytes put together of what packs are made of.
func TestScanAny(t *testing.T) {
	r := rand.New(rand.NewPCG(17, 4))
	var parts []string
	for _, raw := range []string{"", "a", "b", "c", bytes(95), bytes(96), bytes(97)} {
		parts = append(parts, packed(raw), packed(raw), packed(raw))
	}
	parts = append(parts, "\x00", "\x20", framed(""), framed(sum("a")+"b"))
	for range 3000 {
		var s strings.Builder
		for range r.IntN(10) {
			s.WriteString(parts[r.IntN(len(parts))])
		}
		want, end := scanned(s.String())
		checkScan(t, s.String(), want, end)
	}
	for range 3000 {
		s := mixed(r, r.IntN(60))
		want, end := scanned(s)
		checkScan(t, s, want, end)
	}
}

// sorted are slots that rise by key.
func sorted(l ...api.Slot) []api.Slot {
	slices.SortFunc(l, func(a, b api.Slot) int { return strings.Compare(a.Key, b.Key) })
	return l
}

// TestScanSizes: P17.2, objects of as many bytes as those around which a frame's length gets longer, and the greatest.
func TestScanSizes(t *testing.T) {
	for _, c := range []struct{ raw, size int }{
		{0, 37}, {1, 38}, {95, 132}, {96, 134}, {97, 135}, {16351, 16389}, {16352, 16391}, {16353, 16392}, {65503, 65542}, {65504, 65543},
	} {
		x := slot(sum(bytes(c.raw)), 0, c.size)
		checkScan(t, packed(bytes(c.raw), "a"), sorted(x, slot(sum("a"), c.size, 38)), c.size+38)
	}
	checkScan(t, framed(sum(bytes(65505))+bytes(65505)), nil, 0)
	checkScan(t, packed("a")+framed(sum(bytes(65505))+bytes(65505)), []api.Slot{slot(sum("a"), 0, 38)}, 38)
}

// TestScanMany: P17.2, 0.1, as many objects as 2^20 bytes have room for, all unlike or all alike, and the longest ones.
func TestScanMany(t *testing.T) {
	const room = 1 << 20
	alike := strings.Repeat(packed(""), room/37)
	checkScan(t, alike+alike[:room-len(alike)], []api.Slot{slot(sum(""), 0, 37)}, room/37*37)

	var unlike []string
	for i := range room / 39 {
		unlike = append(unlike, string([]byte{byte(i), byte(i >> 8)}))
	}
	s := packed(unlike...)
	want, end := scanned(s)
	if len(want) != len(unlike) || end != len(s) || len(s) > room {
		t.Fatalf("the tests take %d objects in %d bytes to be %d in %d", len(unlike), len(s), len(want), end)
	}
	checkScan(t, s, want, end)

	long := packed(slices.Repeat([]string{bytes(mostText - keySize)}, 15)...)
	checkScan(t, long+long[:room-len(long)], []api.Slot{slot(sum(bytes(mostText-keySize)), 0, 65543)}, len(long))
}
