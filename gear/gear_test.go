package gear_test

import (
	"math"
	"math/big"
	"math/rand/v2"
	"strings"
	"testing"

	"silo/gear"
)

// number is the number of hex digits.
func number(digits string) *big.Int {
	n, ok := new(big.Int).SetString(digits, 16)
	if !ok {
		panic(digits)
	}
	return n
}

// wrapped is n modulo 2^64.
func wrapped(n *big.Int) *big.Int {
	return new(big.Int).Mod(n, new(big.Int).Lsh(big.NewInt(1), 64))
}

// down is n xor n shifted down.
func down(n *big.Int, by uint) *big.Int {
	return new(big.Int).Xor(n, new(big.Int).Rsh(n, by))
}

// times is a product modulo 2^64, the second number as hex digits.
func times(n *big.Int, digits string) *big.Int {
	return wrapped(new(big.Int).Mul(n, number(digits)))
}

// slowTable is what the chapter says that a byte adds, with numbers that have no end.
func slowTable(b byte) *big.Int {
	z := times(big.NewInt(int64(b)+1), "9e3779b97f4a7c15")
	z = times(down(z, 30), "bf58476d1ce4e5b9")
	z = times(down(z, 27), "94d049bb133111eb")
	return down(z, 31)
}

// slowRoll is P6.1 as the chapter words it.
func slowRoll(h *big.Int, b byte) *big.Int {
	return wrapped(new(big.Int).Add(new(big.Int).Lsh(h, 1), slowTable(b)))
}

// slowHash is P6.1 as the chapter words it, byte by byte.
func slowHash(s string) uint64 {
	h := new(big.Int)
	for _, b := range []byte(s) {
		h = slowRoll(h, b)
	}
	return h.Uint64()
}

// mixed is n bytes of all kinds, the same at each run.
func mixed(r *rand.Rand, n int) string {
	l := make([]byte, n)
	for i := range l {
		l[i] = byte(r.Uint32())
	}
	return string(l)
}

// rising is n bytes that go up by one, from 0 on.
func rising(n int) string {
	l := make([]byte, n)
	for i := range l {
		l[i] = byte(i)
	}
	return string(l)
}

// texts are of all kinds of bytes, and of many lengths, those around 64 among them.
func texts() []string {
	l := []string{"", "abc", "cba", "\u00e4\u4e16", "\xff\xfe\x00", "a\x00", "\x00a"}
	r := rand.New(rand.NewPCG(6, 1))
	for n := range 131 {
		l = append(l, strings.Repeat("\x00", n), strings.Repeat("\xff", n), mixed(r, n))
	}
	for _, n := range []int{255, 256, 257, 1000, 4096} {
		l = append(l, mixed(r, n))
	}
	return l
}

// hashes are some to go on from: the edges, each bit alone and without it, others.
func hashes() []uint64 {
	l := []uint64{0, 1, math.MaxInt64, math.MaxUint64 - 1, math.MaxUint64}
	for bit := range 64 {
		l = append(l, 1<<bit, ^uint64(1<<bit))
	}
	r := rand.New(rand.NewPCG(6, 2))
	for range 50 {
		l = append(l, r.Uint64())
	}
	return l
}

// TestTable: P6.1, numbers that were worked out outside the program.
func TestTable(t *testing.T) {
	for _, c := range []struct {
		b    byte
		want uint64
	}{
		{0, 0xe220a8397b1dcdaf},
		{1, 0x6e789e6aa1b965f4},
		{2, 0x06c45d188009454f},
		{3, 0xf88bb8a8724c81ec},
		{4, 0x1b39896a51a8749b},
		{'a', 0xee8c2baf6343e5c3},
		{0x7f, 0x12d05c4045a39c19},
		{0x80, 0x9899202fd20f0841},
		{0xfe, 0x011f04f2a75fb9be},
		{0xff, 0x5a5832bb47bcf19e},
	} {
		if got := gear.Table(c.b); got != c.want {
			t.Errorf("Table(%#x) = %016x, want %016x", c.b, got, c.want)
		}
	}
}

// TestTableAny: P6.1, each byte, as the chapter words it, again and again.
func TestTableAny(t *testing.T) {
	for range 2 {
		for b := range 256 {
			if got, want := gear.Table(byte(b)), slowTable(byte(b)).Uint64(); got != want {
				t.Errorf("Table(%#x) = %016x, want %016x", b, got, want)
			}
		}
	}
}

// TestRoll: P6.1, hashes that were worked out outside the program, those that wrap round among them.
func TestRoll(t *testing.T) {
	for _, c := range []struct {
		h    uint64
		b    byte
		want uint64
	}{
		{0, 0, 0xe220a8397b1dcdaf},
		{1, 0, 0xe220a8397b1dcdb1},
		{1 << 63, 0, 0xe220a8397b1dcdaf},
		{math.MaxUint64, 0, 0xe220a8397b1dcdad},
		{0xee8c2baf6343e5c3, 'b', 0xb964b89c6541ee8a},
		{0xb964b89c6541ee8a, 'c', 0xa7cf28b23655821a},
		{0x9ddf57c684e23251, 0, 0x1ddf57c684e23251},
	} {
		if got := gear.Roll(c.h, c.b); got != c.want {
			t.Errorf("Roll(%#x, %#x) = %016x, want %016x", c.h, c.b, got, c.want)
		}
	}
}

// TestRollAny: P6.1, 0.1, any hash and each byte, as the chapter words it.
func TestRollAny(t *testing.T) {
	for _, h := range hashes() {
		for b := range 256 {
			want := slowRoll(new(big.Int).SetUint64(h), byte(b)).Uint64()
			if got := gear.Roll(h, byte(b)); got != want {
				t.Errorf("Roll(%#x, %#x) = %016x, want %016x", h, b, got, want)
			}
		}
	}
}

// TestHash: P6.1, hashes that were worked out outside the program.
func TestHash(t *testing.T) {
	for _, c := range []struct {
		s    string
		want uint64
	}{
		{"", 0},
		{"a", 0xee8c2baf6343e5c3},
		{"ab", 0xb964b89c6541ee8a},
		{"ba", 0xa724ee2aa0b82bcb},
		{"abc", 0xa7cf28b23655821a},
		{"\x00", 0xe220a8397b1dcdaf},
		{"\x00\x00", 0xa661f8ac7159690d},
		{"\xff\xff\xff\xff\xff\xff\xff\xff", 0xfdda888c7534ac62},
		{"\u00e4\u4e16", 0x7fb61bc456992557},
		{strings.Repeat("\x00", 63), 0x9ddf57c684e23251},
		{strings.Repeat("\x00", 64), 0x1ddf57c684e23251},
		{strings.Repeat("\x00", 65), 0x1ddf57c684e23251},
		{rising(256), 0x5f484b3d6f39b32a},
		{"The quick brown fox jumps over the lazy dog", 0xf314e90778d5d8d6},
		{strings.Repeat("a", 1000), 0x1173d4509cbc1a3d},
	} {
		if got := gear.Hash(c.s); got != c.want {
			t.Errorf("Hash of %d bytes %.16q = %016x, want %016x", len(c.s), c.s, got, c.want)
		}
	}
}

// TestHashOne: P6.1, of one byte what it adds.
func TestHashOne(t *testing.T) {
	for b := range 256 {
		if got, want := gear.Hash(string([]byte{byte(b)})), gear.Table(byte(b)); got != want {
			t.Errorf("Hash of the byte %#x = %016x, want %016x", b, got, want)
		}
	}
}

// TestHashAny: P6.1, 0.1, any texts, as the chapter words it, and by Roll.
func TestHashAny(t *testing.T) {
	for _, s := range texts() {
		got := gear.Hash(s)
		if want := slowHash(s); got != want {
			t.Errorf("Hash of %d bytes %.16x = %016x, want %016x", len(s), s, got, want)
		}
		var h uint64
		for _, b := range []byte(s) {
			h = gear.Roll(h, b)
		}
		if got != h {
			t.Errorf("Hash of %d bytes %.16x = %016x, byte by byte %016x", len(s), s, got, h)
		}
	}
}

// TestLast64: P6.2, what is ahead of the last 64 bytes changes nothing.
func TestLast64(t *testing.T) {
	r := rand.New(rand.NewPCG(6, 3))
	for range 100 {
		last := mixed(r, 64)
		want := gear.Hash(last)
		for _, ahead := range []string{"a", "b", "\x00", "\xff", mixed(r, 1), mixed(r, 63), mixed(r, 64), mixed(r, 65), mixed(r, 300), last, last[1:]} {
			if got := gear.Hash(ahead + last); got != want {
				t.Errorf("Hash of %d bytes ahead of %x = %016x, want %016x", len(ahead), last, got, want)
			}
		}
	}
	long := mixed(r, 1<<20)
	if got, want := gear.Hash(long), gear.Hash(long[1<<20-64:]); got != want {
		t.Errorf("Hash of 2^20 bytes = %016x, of the last 64 %016x", got, want)
	}
}

// TestOneOther: P6.2, one other byte changes what it is shifted up by, at each place: nothing ahead of the last 64, and of all of these something.
func TestOneOther(t *testing.T) {
	r := rand.New(rand.NewPCG(6, 4))
	s := mixed(r, 130)
	was := gear.Hash(s)
	for at := range len(s) {
		behind := len(s) - 1 - at
		changed := 0
		for b := range 256 {
			got := gear.Hash(s[:at] + string([]byte{byte(b)}) + s[at+1:])
			if want := was + (gear.Table(byte(b))-gear.Table(s[at]))<<behind; got != want {
				t.Errorf("Hash with the byte %#x at %d = %016x, want %016x", b, at, got, want)
			}
			if got != was {
				changed++
			}
		}
		if inLast := behind < 64; (changed > 0) != inLast {
			t.Errorf("%d bytes at %d of %d change the hash", changed, at, len(s))
		}
	}
}

// TestAllUnlike: P6.3, no two bytes add the same.
func TestAllUnlike(t *testing.T) {
	seen := map[uint64]int{}
	for b := range 256 {
		added := gear.Table(byte(b))
		if other, ok := seen[added]; ok {
			t.Errorf("the bytes %#x and %#x add %016x", other, b, added)
		}
		seen[added] = b
	}
}

// checkTwo is P6.3 of two texts.
func checkTwo(t *testing.T, a, b string) {
	t.Helper()
	if got, want := gear.Hash(a+b), gear.Hash(a)<<len(b)+gear.Hash(b); got != want {
		t.Errorf("Hash of %d bytes ahead of %d = %016x, want %016x", len(a), len(b), got, want)
	}
}

// TestTwoTexts: P6.3, two texts, one behind the other: each cut of a text, and any two.
func TestTwoTexts(t *testing.T) {
	r := rand.New(rand.NewPCG(6, 5))
	s := mixed(r, 200)
	for at := range len(s) + 1 {
		checkTwo(t, s[:at], s[at:])
	}
	for _, b := range texts() {
		for _, a := range []string{"", "\x00", "\xff", "abc", mixed(r, 63), mixed(r, 64), mixed(r, 65), mixed(r, 500)} {
			checkTwo(t, a, b)
		}
	}
}

// TestHashLong: P6.1, 0.1, a text of many bytes ends.
func TestHashLong(t *testing.T) {
	if got, want := gear.Hash(strings.Repeat("\x00", 1<<26)), uint64(0x1ddf57c684e23251); got != want {
		t.Errorf("Hash of 2^26 zeros = %016x, want %016x", got, want)
	}
}
