package sha_test

import (
	"bytes"
	"crypto/sha256"
	"encoding"
	"encoding/binary"
	"encoding/hex"
	"math/rand/v2"
	"slices"
	"strings"
	"testing"

	"silo/api"
	"silo/sha"
)

// first is what a sum begins with, as the chapter lists it.
var first = api.Hash{0x6a09e667, 0xbb67ae85, 0x3c6ef372, 0xa54ff53a, 0x510e527f, 0x9b05688c, 0x1f83d9ab, 0x5be0cd19}

// library is the library's sum of a text.
func library(s string) string {
	sum := sha256.Sum256([]byte(s))
	return string(sum[:])
}

// blockOfLibrary is what the library makes of h and a block: it is set to h, is fed the block, and is asked where it is then.
func blockOfLibrary(t *testing.T, h api.Hash, b [64]byte) api.Hash {
	t.Helper()
	const magic = "sha\x03"
	state := []byte(magic)
	for _, w := range h {
		state = binary.BigEndian.AppendUint32(state, w)
	}
	state = append(state, make([]byte, 64+8)...)
	d := sha256.New()
	if err := d.(encoding.BinaryUnmarshaler).UnmarshalBinary(state); err != nil {
		t.Fatal(err)
	}
	d.Write(b[:])
	state, err := d.(encoding.BinaryMarshaler).MarshalBinary()
	if err != nil {
		t.Fatal(err)
	}
	var out api.Hash
	for i := range out {
		out[i] = binary.BigEndian.Uint32(state[len(magic)+4*i:])
	}
	return out
}

// bytesOf is a hash's words' bytes, the highest first.
func bytesOf(h api.Hash) string {
	var out []byte
	for _, w := range h {
		out = binary.BigEndian.AppendUint32(out, w)
	}
	return string(out)
}

// blocksOf is a text with what the chapter lays behind it, cut in blocks.
func blocksOf(s string) [][64]byte {
	l := append([]byte(s), 0x80)
	for len(l)%64 != 56 {
		l = append(l, 0)
	}
	l = binary.BigEndian.AppendUint64(l, uint64(8*len(s)))
	var out [][64]byte
	for b := range slices.Chunk(l, 64) {
		out = append(out, [64]byte(b))
	}
	return out
}

// mixed is n bytes of all kinds, the same at each run.
func mixed(r *rand.Rand, n int) string {
	l := make([]byte, n)
	for i := range l {
		l[i] = byte(r.Uint32())
	}
	return string(l)
}

// someHash is a hash of any words, the same at each run.
func someHash(r *rand.Rand) api.Hash {
	var h api.Hash
	for i := range h {
		h[i] = r.Uint32()
	}
	return h
}

// texts are one of each byte, and of all kinds, zeros and ones with each length around that of a block, and longer ones.
func texts() []string {
	l := []string{"\u00e4\u4e16", "\x80", "abc\x80", strings.Repeat("\x80", 55)}
	for b := range 256 {
		l = append(l, string([]byte{byte(b)}))
	}
	r := rand.New(rand.NewPCG(4, 1))
	for n := range 261 {
		l = append(l, mixed(r, n), strings.Repeat("\x00", n), strings.Repeat("\xff", n))
	}
	for _, n := range []int{511, 512, 1015, 1016, 4096, 8191, 8192, 8193, 65536, 1<<20 + 7, 1<<21 - 1, 1 << 21, 1<<21 + 56} {
		l = append(l, mixed(r, n))
	}
	return l
}

// TestFirst: P4.1, the words that the chapter lists, again and again.
func TestFirst(t *testing.T) {
	h := sha.First()
	if h != first {
		t.Errorf("First() = %x, want %x", h, first)
	}
	h[0] = 0
	if again := sha.First(); again != first {
		t.Errorf("First() = %x, when what it told was changed", again)
	}
}

// TestBlock: P4.1, a block that is known: that of abc.
func TestBlock(t *testing.T) {
	b := [64]byte{'a', 'b', 'c', 0x80, 63: 24}
	want := api.Hash{0xba7816bf, 0x8f01cfea, 0x414140de, 0x5dae2223, 0xb00361a3, 0x96177a9c, 0xb410ff61, 0xf20015ad}
	if got := sha.Block(first, b); got != want {
		t.Errorf("Block(First, abc) = %x, want %x", got, want)
	}
}

// checkBlock holds Block against the library's.
func checkBlock(t *testing.T, h api.Hash, b [64]byte) {
	t.Helper()
	if got, want := sha.Block(h, b), blockOfLibrary(t, h, b); got != want {
		t.Errorf("Block(%x, %x) = %x, want %x", h, b, got, want)
	}
}

// TestBlockAny: P4.1, 0.1, any hash and any block.
func TestBlockAny(t *testing.T) {
	var zeros, ones [64]byte
	for i := range ones {
		ones[i] = 0xff
	}
	var low, high api.Hash
	for i := range high {
		high[i] = 0xffffffff
	}
	for _, h := range []api.Hash{first, low, high} {
		checkBlock(t, h, zeros)
		checkBlock(t, h, ones)
	}
	r := rand.New(rand.NewPCG(4, 2))
	for range 2000 {
		checkBlock(t, someHash(r), [64]byte([]byte(mixed(r, 64))))
	}
}

// TestBlockBits: P4.1, each bit of the hash and of the block by itself.
func TestBlockBits(t *testing.T) {
	for i := range 8 * 32 {
		var h api.Hash
		h[i/32] = 1 << (i % 32)
		checkBlock(t, h, [64]byte{})
	}
	for i := range 64 * 8 {
		var b [64]byte
		b[i/8] = 1 << (i % 8)
		checkBlock(t, first, b)
	}
}

// TestSum: P4.2, sums that are known.
func TestSum(t *testing.T) {
	for _, c := range []struct{ s, want string }{
		{"", "e3b0c44298fc1c149afbf4c8996fb92427ae41e4649b934ca495991b7852b855"},
		{"abc", "ba7816bf8f01cfea414140de5dae2223b00361a396177a9cb410ff61f20015ad"},
		{"abcdbcdecdefdefgefghfghighijhijkijkljklmklmnlmnomnopnopq", "248d6a61d20638b8e5c026930c3e6039a33ce45964ff2167f6ecedd419db06c1"},
		{"abcdefghbcdefghicdefghijdefghijkefghijklfghijklmghijklmnhijklmnoijklmnopjklmnopqklmnopqrlmnopqrsmnopqrstnopqrstu", "cf5b16a778af8380036ce59e7b0492370b249b11e8f07a51afac45037afee9d1"},
		{strings.Repeat("a", 1000000), "cdc76e5c9914fb9281a1c7e284d73e67f1809a48a497200e046d39ccc7112cd0"},
	} {
		if got := hex.EncodeToString([]byte(sha.Sum(c.s))); got != c.want {
			t.Errorf("Sum of %d bytes %.16q = %s, want %s", len(c.s), c.s, got, c.want)
		}
	}
}

// TestSumAny: P4.2, 0.1, any texts.
func TestSumAny(t *testing.T) {
	for _, s := range texts() {
		if got, want := sha.Sum(s), library(s); got != want {
			t.Errorf("Sum of %d bytes %.16x = %x, want %x", len(s), s, got, want)
		}
	}
}

// TestSumOfBlocks: P4.2, as the chapter words it: from First on, block by block.
func TestSumOfBlocks(t *testing.T) {
	for _, s := range texts() {
		h := sha.First()
		for _, b := range blocksOf(s) {
			h = sha.Block(h, b)
		}
		if got := sha.Sum(s); got != bytesOf(h) {
			t.Errorf("Sum of %d bytes %.16x = %x, want %x", len(s), s, got, bytesOf(h))
		}
	}
}

// TestJoin: P4.3, texts one behind the other, in their order.
func TestJoin(t *testing.T) {
	for _, c := range []struct {
		l    []string
		want string
	}{
		{nil, ""},
		{[]string{}, ""},
		{[]string{""}, ""},
		{[]string{"", "", ""}, ""},
		{[]string{"abc"}, "abc"},
		{[]string{"a", "b", "c"}, "abc"},
		{[]string{"", "ab", "", "c", ""}, "abc"},
		{[]string{"c", "b", "a"}, "cba"},
		{[]string{"ab", "ab"}, "abab"},
		{[]string{strings.Repeat("a", 64), "b"}, strings.Repeat("a", 64) + "b"},
		{[]string{"b", strings.Repeat("a", 64)}, "b" + strings.Repeat("a", 64)},
		{[]string{"b", strings.Repeat("a", 200), "\x80", strings.Repeat("c", 119)}, "b" + strings.Repeat("a", 200) + "\x80" + strings.Repeat("c", 119)},
	} {
		if got, want := sha.Join(c.l), library(c.want); got != want {
			t.Errorf("Join(%.16q) = %x, want %x", c.l, got, want)
		}
	}
}

// TestJoinMany: P4.3, 0.1, many texts, which are left as they are.
func TestJoinMany(t *testing.T) {
	r := rand.New(rand.NewPCG(4, 3))
	for range 300 {
		var l []string
		for range r.IntN(40) {
			l = append(l, mixed(r, r.IntN(150)))
		}
		given := slices.Clone(l)
		if got, want := sha.Join(l), library(strings.Join(given, "")); got != want {
			t.Errorf("Join of %d texts = %x, want %x", len(l), got, want)
		}
		if !slices.Equal(l, given) {
			t.Errorf("Join changed its texts")
		}
	}
	none := make([]string, 1<<20)
	if got, want := sha.Join(none), library(""); got != want {
		t.Errorf("Join of %d empty texts = %x, want %x", len(none), got, want)
	}
}

// TestJoinLong: P4.3, so many bytes that their bits are counted in more than 4 bytes.
func TestJoinLong(t *testing.T) {
	if testing.Short() {
		t.Skip("takes seconds")
	}
	text := mixed(rand.New(rand.NewPCG(4, 4)), 1<<20)
	l := slices.Repeat([]string{text}, 1<<9)
	l = append(l, "abc")
	d := sha256.New()
	for _, s := range l {
		d.Write([]byte(s))
	}
	if got, want := sha.Join(l), d.Sum(nil); !bytes.Equal([]byte(got), want) {
		t.Errorf("Join of 2^29 + 3 bytes = %x, want %x", got, want)
	}
}

// TestOneBlock: P4.4, a text of less than 56 bytes has the sum of its one block, one of 56 bytes has not.
func TestOneBlock(t *testing.T) {
	r := rand.New(rand.NewPCG(4, 5))
	for n := range 56 {
		s := mixed(r, n)
		var b [64]byte
		copy(b[:], s)
		b[n] = 0x80
		b[62], b[63] = byte(8*n>>8), byte(8*n)
		want := bytesOf(sha.Block(sha.First(), b))
		if got := sha.Sum(s); got != want {
			t.Errorf("Sum(%x) = %x, want %x", s, got, want)
		}
		if got := sha.Join([]string{s}); got != want {
			t.Errorf("Join(%x) = %x, want %x", s, got, want)
		}
	}
	s := mixed(r, 56)
	l := blocksOf(s)
	if len(l) != 2 {
		t.Fatalf("56 bytes come to %d blocks", len(l))
	}
	if got, want := sha.Sum(s), bytesOf(sha.Block(sha.Block(sha.First(), l[0]), l[1])); got != want {
		t.Errorf("Sum(%x) = %x, want %x", s, got, want)
	}
}

// TestCuts: P4.4, each text in two and in three parts, wherever it is cut.
func TestCuts(t *testing.T) {
	r := rand.New(rand.NewPCG(4, 6))
	for _, n := range []int{0, 1, 2, 55, 56, 63, 64, 65, 119, 120, 128, 129} {
		s := mixed(r, n)
		whole := sha.Sum(s)
		for b := range n + 1 {
			for a := range b + 1 {
				if got := sha.Join([]string{s[:a], s[a:b], s[b:]}); got != whole {
					t.Errorf("Join of %d bytes, cut at %d and %d = %x, want %x", n, a, b, got, whole)
				}
			}
			if got := sha.Join([]string{s[:b], s[b:]}); got != whole {
				t.Errorf("Join of %d bytes, cut at %d = %x, want %x", n, b, got, whole)
			}
		}
	}
}

// TestCutsAny: P4.4, texts cut byte by byte, and anywhere.
func TestCutsAny(t *testing.T) {
	r := rand.New(rand.NewPCG(4, 7))
	for n := range 300 {
		s := mixed(r, n)
		whole := sha.Sum(s)
		var single, parts []string
		for i := range n {
			single = append(single, s[i:i+1])
		}
		for rest := s; rest != ""; {
			k := r.IntN(min(len(rest), 90) + 1)
			parts = append(parts, rest[:k])
			rest = rest[k:]
		}
		for _, l := range [][]string{single, parts} {
			if got := sha.Join(l); got != whole {
				t.Errorf("Join of %d bytes in %d parts = %x, want %x", n, len(l), got, whole)
			}
		}
	}
}

// TestSumSize: P4.2, P4.3, a sum has 32 bytes, and another text another one.
func TestSumSize(t *testing.T) {
	seen := map[string]string{}
	for _, s := range texts() {
		sum := sha.Sum(s)
		if len(sum) != api.KeySize {
			t.Errorf("Sum of %d bytes has %d bytes", len(s), len(sum))
		}
		if other, ok := seen[sum]; ok && other != s {
			t.Errorf("two texts of %d and %d bytes have the sum %x", len(s), len(other), sum)
		}
		seen[sum] = s
	}
}
