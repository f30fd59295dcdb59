package crc_test

import (
	"encoding/binary"
	"hash/crc32"
	"math"
	"math/bits"
	"math/rand/v2"
	"strings"
	"testing"

	"silo/crc"
)

// slow is P2.1 as the chapter words it, from c, turned, on.
func slow(c uint32, s string) uint32 {
	rest := ^c
	for _, b := range []byte(s) {
		rest ^= uint32(b)
		for range 8 {
			gone := rest & 1
			rest >>= 1
			if gone == 1 {
				rest ^= 0x82f63b78
			}
		}
	}
	return ^rest
}

// castagnoli is the library's checksum, from c on.
func castagnoli(c uint32, s string) uint32 {
	return crc32.Update(c, crc32.MakeTable(crc32.Castagnoli), []byte(s))
}

// rising is n bytes that go up by one, from b on.
func rising(b byte, n int) string {
	l := make([]byte, n)
	for i := range l {
		l[i] = b + byte(i)
	}
	return string(l)
}

// mixed is n bytes of all kinds, the same at each run.
func mixed(r *rand.Rand, n int) string {
	l := make([]byte, n)
	for i := range l {
		l[i] = byte(r.Uint32())
	}
	return string(l)
}

// texts are one of each byte, and of all kinds and many lengths.
func texts() []string {
	l := []string{"", "123456789", "\u00e4\u4e16", "\xff\xfe\x00", "a\x00", "\x00a"}
	for b := range 256 {
		l = append(l, string([]byte{byte(b)}))
	}
	r := rand.New(rand.NewPCG(2, 1))
	for n := range 70 {
		l = append(l, strings.Repeat("\x00", n), strings.Repeat("\xff", n), mixed(r, n))
	}
	for _, n := range []int{255, 256, 257, 4095, 4096, 65535, 65536, 65537, 1 << 20} {
		l = append(l, mixed(r, n))
	}
	return l
}

// sums are checksums to go on from: the edges, each bit alone and without it, others.
func sums() []uint32 {
	l := []uint32{0, 1, 0x80, 0xff, 0x100, 0x82f63b78, 0xe3069283, math.MaxInt32, math.MaxUint32 - 1, math.MaxUint32}
	for bit := range 32 {
		l = append(l, 1<<bit, ^uint32(1<<bit))
	}
	r := rand.New(rand.NewPCG(2, 2))
	for range 50 {
		l = append(l, r.Uint32())
	}
	return l
}

// TestSum: P2.1, sums that are known.
func TestSum(t *testing.T) {
	for _, c := range []struct {
		s    string
		want uint32
	}{
		{"", 0},
		{"123456789", 0xe3069283},
		{"a", 0xc1d04330},
		{strings.Repeat("\x00", 32), 0x8a9136aa},
		{strings.Repeat("\xff", 32), 0x62a8ab43},
		{rising(0, 32), 0x46dd794e},
	} {
		if got := crc.Sum(c.s); got != c.want {
			t.Errorf("Sum(%x) = %08x, want %08x", c.s, got, c.want)
		}
	}
}

// TestSumAny: P2.1, 0.1, any texts.
func TestSumAny(t *testing.T) {
	for _, s := range texts() {
		got := crc.Sum(s)
		if want := slow(0, s); got != want {
			t.Errorf("Sum of %d bytes %.16x = %08x, want %08x", len(s), s, got, want)
		}
		if want := castagnoli(0, s); got != want {
			t.Errorf("Sum of %d bytes %.16x = %08x, the library's is %08x", len(s), s, got, want)
		}
	}
}

// TestMore: P2.1, from any checksum, turned, on.
func TestMore(t *testing.T) {
	if got := crc.More(crc.Sum("12345"), "6789"); got != 0xe3069283 {
		t.Errorf("More(Sum(12345), 6789) = %08x", got)
	}
	for _, s := range texts() {
		if len(s) > 4096 {
			continue
		}
		for _, c := range sums() {
			got := crc.More(c, s)
			if want := slow(c, s); got != want {
				t.Errorf("More(%08x, %d bytes %.16x) = %08x, want %08x", c, len(s), s, got, want)
			}
			if want := castagnoli(c, s); got != want {
				t.Errorf("More(%08x, %d bytes %.16x) = %08x, the library's is %08x", c, len(s), s, got, want)
			}
		}
	}
}

// TestBytes: P2.1, four bytes, the lowest first.
func TestBytes(t *testing.T) {
	for _, c := range []struct {
		c    uint32
		want string
	}{
		{0, "\x00\x00\x00\x00"},
		{1, "\x01\x00\x00\x00"},
		{0xff, "\xff\x00\x00\x00"},
		{0x100, "\x00\x01\x00\x00"},
		{0x12345678, "\x78\x56\x34\x12"},
		{0xe3069283, "\x83\x92\x06\xe3"},
		{0x80000000, "\x00\x00\x00\x80"},
		{math.MaxUint32, "\xff\xff\xff\xff"},
	} {
		if got := crc.Bytes(c.c); got != c.want {
			t.Errorf("Bytes(%08x) = %x, want %x", c.c, got, c.want)
		}
	}
	for _, c := range sums() {
		got := crc.Bytes(c)
		if len(got) != 4 || binary.LittleEndian.Uint32([]byte(got)) != c {
			t.Errorf("Bytes(%08x) = %x", c, got)
		}
	}
}

// TestParts: P2.2, More of Sum(a) and b, wherever a text is cut.
func TestParts(t *testing.T) {
	r := rand.New(rand.NewPCG(2, 3))
	for _, n := range []int{0, 1, 2, 3, 4, 5, 16, 64, 300} {
		s := mixed(r, n)
		whole := crc.Sum(s)
		for cut := range n + 1 {
			if got := crc.More(crc.Sum(s[:cut]), s[cut:]); got != whole {
				t.Errorf("%d bytes, cut at %d: %08x, want %08x", n, cut, got, whole)
			}
		}
		one := crc.Sum("")
		for i := range n {
			one = crc.More(one, s[i:i+1])
		}
		if one != whole {
			t.Errorf("%d bytes, one by one: %08x, want %08x", n, one, whole)
		}
	}
}

// TestMoreOfNothing: P2.2, a text without bytes changes no checksum.
func TestMoreOfNothing(t *testing.T) {
	for _, c := range sums() {
		if got := crc.More(c, ""); got != c {
			t.Errorf("More(%08x, nothing) = %08x", c, got)
		}
	}
}

// with is s with the bits of mask, the lowest byte first, turned from the byte at on.
func with(s string, at int, mask uint32) string {
	l := []byte(s)
	for i := at; mask != 0; i++ {
		l[i] ^= byte(mask)
		mask >>= 8
	}
	return string(l)
}

// TestOneByte: P2.3, each other byte at each place.
func TestOneByte(t *testing.T) {
	r := rand.New(rand.NewPCG(2, 4))
	for _, n := range []int{1, 2, 3, 4, 5, 33, 300} {
		s := mixed(r, n)
		sum := crc.Sum(s)
		for at := range n {
			seen := map[uint32]uint32{sum: 0}
			for mask := uint32(1); mask < 256; mask++ {
				other := crc.Sum(with(s, at, mask))
				if was, ok := seen[other]; ok {
					t.Errorf("%d bytes: turned by %02x and by %02x at %d: one sum, %08x", n, mask, was, at, other)
				}
				seen[other] = mask
			}
		}
	}
}

// TestFourInARow: P2.3, bytes of two to four in a row, at the beginning, within and at the end.
func TestFourInARow(t *testing.T) {
	r := rand.New(rand.NewPCG(2, 5))
	for _, n := range []int{4, 5, 8, 67, 300} {
		s := mixed(r, n)
		sum := crc.Sum(s)
		for at := range n - 3 {
			for _, mask := range sums() {
				if mask != 0 && crc.Sum(with(s, at, mask)) == sum {
					t.Errorf("%d bytes, turned by %08x at %d: the same sum", n, mask, at)
				}
			}
		}
	}
}

// rank is how many of these are none that others of them, xored, come to.
func rank(l []uint32) int {
	var top [33]uint32 // by how many bits it has
	n := 0
	for _, x := range l {
		for x != 0 && top[bits.Len32(x)] != 0 {
			x ^= top[bits.Len32(x)]
		}
		if x != 0 {
			top[bits.Len32(x)] = x
			n++
		}
	}
	return n
}

// TestAllOfFourInARow: P2.3, all 2^32 ways to turn four bytes in a row: what a turned bit changes in the sum hangs on no other bit, and no changes of the 32 bits come to none together.
func TestAllOfFourInARow(t *testing.T) {
	r := rand.New(rand.NewPCG(2, 6))
	for behind := range 70 {
		s := mixed(r, 4+behind)
		sum := crc.Sum(s)
		var changes []uint32
		for bit := range 32 {
			changes = append(changes, sum^crc.Sum(with(s, 0, 1<<bit)))
		}
		if got := rank(changes); got != 32 {
			t.Errorf("%d bytes behind: the changes' rank is %d, want 32", behind, got)
		}
		for range 50 {
			mask, want := r.Uint32(), sum
			for bit := range 32 {
				if mask>>bit&1 == 1 {
					want ^= changes[bit]
				}
			}
			if got := crc.Sum(with(s, 0, mask)); got != want {
				t.Errorf("%d bytes behind, turned by %08x: %08x, want %08x", behind, mask, got, want)
			}
		}
	}
}
