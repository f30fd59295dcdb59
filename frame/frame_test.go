package frame_test

import (
	"encoding/binary"
	"hash/crc32"
	"math"
	"math/rand/v2"
	"slices"
	"strings"
	"testing"

	"silo/api"
	"silo/frame"
	"silo/varint"
)

// sealed is bytes with the library's checksum of them behind.
func sealed(body string) string {
	sum := crc32.Checksum([]byte(body), crc32.MakeTable(crc32.Castagnoli))
	return body + string(binary.LittleEndian.AppendUint32(nil, sum))
}

// framed is a text's frame as the chapter words it, however long the text is.
func framed(s string) string {
	return sealed(string(binary.AppendUvarint(nil, uint64(len(s)))) + s)
}

// headSize is how many bytes the length of n bytes has.
func headSize(n int) int { return len(binary.AppendUvarint(nil, uint64(n))) }

// opened is what P3.2 asks of Open, the length's errors being told by varint.TakeText.
func opened(s string) (string, int, api.Errno) {
	text, used, err := varint.TakeText(s)
	if err != api.OK {
		return "", 0, err
	}
	if len(s) < used+4 {
		return "", 0, api.ErrShort
	}
	if sealed(s[:used]) != s[:used+4] {
		return "", 0, api.ErrSum
	}
	return text, used + 4, api.OK
}

// mixed is n bytes of all kinds, the same at each run.
func mixed(r *rand.Rand, n int) string {
	l := make([]byte, n)
	for i := range l {
		l[i] = byte(r.Uint32())
	}
	return string(l)
}

// turned is s with the bits of mask turned in its byte at.
func turned(s string, at int, mask byte) string {
	l := []byte(s)
	l[at] ^= mask
	return string(l)
}

// texts are one of each byte, those that look like frames, and of all kinds with the lengths at which the length's bytes get more.
func texts() []string {
	l := []string{"", "ab", "123456789", "\x00\x00", "\xff\xff\xff", "\u00e4\u4e16", framed(""), framed("a"), framed(framed("ab"))}
	for b := range 256 {
		l = append(l, string([]byte{byte(b)}))
	}
	r := rand.New(rand.NewPCG(3, 1))
	for _, n := range []int{2, 3, 4, 5, 16, 63, 64, 126, 127, 128, 129, 300, 16383, 16384, 16385, 65535, 65536} {
		l = append(l, mixed(r, n), strings.Repeat("\x00", n))
	}
	return l
}

// TestWrap: P3.1, frames that are known.
func TestWrap(t *testing.T) {
	for _, c := range []struct{ s, want string }{
		{"", "\x00\x51\x53\x7d\x52"},
		{"a", "\x01a\xc4\xff\x6e\x71"},
		{"ab", "\x02ab\x93\xaf\xc8\x3c"},
		{"\x00\x00\x00", "\x03\x00\x00\x00\xfe\xc2\x45\x2a"},
		{"123456789", "\x09123456789\xe0\x9a\xb2\x36"},
	} {
		if got := frame.Wrap(c.s); got != c.want {
			t.Errorf("Wrap(%x) = %x, want %x", c.s, got, c.want)
		}
	}
}

// TestWrapAny: P3.1, 0.1, any texts; nothing of those that are too long.
func TestWrapAny(t *testing.T) {
	for _, s := range texts() {
		if got := frame.Wrap(s); got != framed(s) {
			t.Errorf("Wrap of %d bytes %.16x: %d bytes, not its frame", len(s), s, len(got))
		}
	}
	for _, n := range []int{65537, 65538, 1<<17 - 1, 1 << 17, 1 << 20} {
		if got := frame.Wrap(strings.Repeat("a", n)); got != "" {
			t.Errorf("Wrap of %d bytes: %d bytes, want none", n, len(got))
		}
	}
}

// check holds Open against what is wanted.
func check(t *testing.T, s, text string, used int, err api.Errno) {
	t.Helper()
	gotText, gotUsed, gotErr := frame.Open(s)
	if gotText != text || gotUsed != used || gotErr != err {
		t.Errorf("Open of %d bytes %.16x: %d bytes, %d, %v, want %d bytes, %d, %v", len(s), s, len(gotText), gotUsed, gotErr, len(text), used, err)
	}
}

// TestOpen: P3.2, the text, and how many bytes its frame has, whatever is behind.
func TestOpen(t *testing.T) {
	check(t, "\x00\x51\x53\x7d\x52", "", 5, api.OK)
	check(t, "\x01a\xc4\xff\x6e\x71", "a", 6, api.OK)
	check(t, "\x01a\xc4\xff\x6e\x71\x00", "a", 6, api.OK)
	check(t, "\x02ab\x93\xaf\xc8\x3c\x01a", "ab", 7, api.OK)
	for _, n := range []int{127, 128, 16383, 16384, 65535, 65536} {
		s := strings.Repeat("b", n)
		check(t, framed(s), s, headSize(n)+n+4, api.OK)
	}
}

// TestOpenLength: P3.2, the error of varint.TakeText, ahead of all others.
func TestOpenLength(t *testing.T) {
	long := strings.Repeat("b", 65537)
	for _, c := range []struct {
		s   string
		err api.Errno
	}{
		{"", api.ErrShort},
		{"\x80", api.ErrShort},
		{"\xff\xff", api.ErrShort},
		{"\x01", api.ErrShort},
		{"\x05abcd", api.ErrShort},
		{"\x80\x80\x04" + long[:65535], api.ErrShort},

		{"\x80\x00", api.ErrForm},
		{sealed("\x80\x00"), api.ErrForm},
		{sealed("\x81\x00a"), api.ErrForm},

		{framed(long), api.ErrRange},
		{framed(long)[:9], api.ErrRange},
		{"\x81\x80\x04", api.ErrRange},
		{sealed(varint.Put(1<<32+1) + "a"), api.ErrRange},
		{sealed(varint.Put(1<<63) + "a"), api.ErrRange},
		{sealed(varint.Put(math.MaxUint64) + "a"), api.ErrRange},
		{strings.Repeat("\xff", 20), api.ErrRange},
	} {
		check(t, c.s, "", 0, c.err)
	}
}

// TestOpenSum: P3.2, the checksum: fewer than 4 bytes ahead of whether they are its.
func TestOpenSum(t *testing.T) {
	for _, s := range []string{"", "a", "abcd", strings.Repeat("c", 300)} {
		f := framed(s)
		body, sum := f[:len(f)-4], f[len(f)-4:]
		for n := range 4 {
			check(t, body+sum[:n], "", 0, api.ErrShort)
			check(t, body+strings.Repeat("\x00", n), "", 0, api.ErrShort)
		}
		check(t, body+"\x00\x00\x00\x00", "", 0, api.ErrSum)
		check(t, body+sum[1:]+sum, "", 0, api.ErrSum)

		turnedRound := []byte(sum)
		slices.Reverse(turnedRound)
		check(t, body+string(turnedRound), "", 0, api.ErrSum)

		ofText := sealed(s)
		check(t, body+ofText[len(s):], "", 0, api.ErrSum)
	}
}

// TestOpenAny: P3.2, 0.1, 0.3: every text is told or has its error, with nothing beside it.
func TestOpenAny(t *testing.T) {
	r := rand.New(rand.NewPCG(3, 2))
	tail := mixed(r, 20)
	var l []string
	for a := range 256 {
		l = append(l, string([]byte{byte(a)}))
		for b := range 256 {
			two := string([]byte{byte(a), byte(b)})
			l = append(l, two, two+tail, sealed(two), sealed(two)+tail)
		}
	}
	for range 5000 {
		l = append(l, mixed(r, r.IntN(40)))
	}
	for _, s := range []string{"", "a", strings.Repeat("d", 127), strings.Repeat("d", 128), strings.Repeat("d", 300)} {
		for at := range headSize(len(s)) {
			for mask := 1; mask < 256; mask++ {
				other := turned(framed(s), at, byte(mask))
				l = append(l, other, other+strings.Repeat("e", 200))
			}
		}
	}
	l = append(l, strings.Repeat("\x80", 1<<20), strings.Repeat("\x00", 1<<20), "\x80\x80\x04"+strings.Repeat("f", 1<<20-3))
	for _, s := range l {
		text, used, err := opened(s)
		check(t, s, text, used, err)
	}
}

// checkScan holds Scan against what is wanted.
func checkScan(t *testing.T, s string, texts []string, used int) {
	t.Helper()
	got, gotUsed := frame.Scan(s)
	if !slices.Equal(got, texts) || gotUsed != used {
		t.Errorf("Scan of %d bytes %.16x: %d texts, %d, want %d texts, %d", len(s), s, len(got), gotUsed, len(texts), used)
	}
}

// TestScan: P3.3, frames one behind the other, and how many bytes they have.
func TestScan(t *testing.T) {
	checkScan(t, "", nil, 0)
	checkScan(t, "\x01a\xc4\xff\x6e\x71", []string{"a"}, 6)
	checkScan(t, "\x01a\xc4\xff\x6e\x71\x00\x51\x53\x7d\x52\x02ab\x93\xaf\xc8\x3c", []string{"a", "", "ab"}, 18)
	checkScan(t, framed("")+framed(""), []string{"", ""}, 10)
	checkScan(t, framed("b")+framed("a")+framed("b"), []string{"b", "a", "b"}, 18)
}

// TestScanStops: P3.3, at the first that is no frame, of whichever error, whatever is behind.
func TestScanStops(t *testing.T) {
	ahead := framed("a") + framed("bc")
	for _, bad := range []string{
		"\x80",
		"\x05abcd",
		"\x01a\xc4\xff\x6e",
		"\x80\x00",
		sealed("\x81\x00a"),
		"\x81\x80\x04",
		framed(strings.Repeat("a", 65537)),
		"\x01a\xc4\xff\x6e\x70",
		"\x01b\xc4\xff\x6e\x71",
		"\x00\x00\x00\x00\x00",
	} {
		for _, behind := range []string{"", framed("d")} {
			if _, _, err := opened(bad + behind); err == api.OK {
				t.Fatalf("%.16x begins with a frame", bad+behind)
			}
			checkScan(t, bad+behind, nil, 0)
			checkScan(t, ahead+bad+behind, []string{"a", "bc"}, len(ahead))
		}
	}
}

// TestScanMany: P3.3, 0.1, as many frames as 2^20 bytes have room for, and the longest ones.
func TestScanMany(t *testing.T) {
	n := (1 << 20) / 5
	small := strings.Repeat(framed(""), n)
	checkScan(t, small+"\x00", make([]string, n), 5*n)

	text := strings.Repeat("g", 65536)
	long := strings.Repeat(framed(text), 15)
	checkScan(t, long+framed(text)[:65542], slices.Repeat([]string{text}, 15), len(long))
}

// TestScanAnew: 0.5, 0.7: what Scan told is the caller's, and an empty list is none.
func TestScanAnew(t *testing.T) {
	s := framed("a") + framed("b")
	first, _ := frame.Scan(s)
	first[0] = "c"
	checkScan(t, s, []string{"a", "b"}, 12)
	for _, none := range []string{"", "\x00", "\x01a"} {
		if l, used := frame.Scan(none); l != nil || used != 0 {
			t.Errorf("Scan(%x) = %v, %d", none, l, used)
		}
	}
}

// TestThereAndBack: P3.4, Open of Wrap and any bytes behind.
func TestThereAndBack(t *testing.T) {
	r := rand.New(rand.NewPCG(3, 3))
	for _, s := range texts() {
		f := frame.Wrap(s)
		for _, behind := range []string{"", "\x00", "\xff", f, mixed(r, 3), mixed(r, 40)} {
			check(t, f+behind, s, len(f), api.OK)
		}
	}
}

// TestScanOfWraps: P3.4, frames, one behind the other, and then a part of one, whatever it is cut to.
func TestScanOfWraps(t *testing.T) {
	r := rand.New(rand.NewPCG(3, 4))
	for range 100 {
		var l []string
		var all strings.Builder
		for range r.IntN(6) {
			s := mixed(r, r.IntN(200))
			l = append(l, s)
			all.WriteString(frame.Wrap(s))
		}
		next := frame.Wrap(mixed(r, r.IntN(200)))
		for cut := range len(next) {
			checkScan(t, all.String()+next[:cut], l, all.Len())
		}
	}
	whole := framed("h") + framed(strings.Repeat("i", 65536))
	for _, cut := range []int{0, 1, 2, 3, 4, 65535, 65538, 65539, 65540, 65542} {
		checkScan(t, whole[:6+cut], []string{"h"}, 6)
	}
}

// TestTorn: P3.5, each other byte at each place behind the length's.
func TestTorn(t *testing.T) {
	r := rand.New(rand.NewPCG(3, 5))
	for _, n := range []int{0, 1, 2, 5, 127, 128, 300} {
		f := frame.Wrap(mixed(r, n))
		for at := headSize(n); at < len(f); at++ {
			for mask := 1; mask < 256; mask++ {
				check(t, turned(f, at, byte(mask)), "", 0, api.ErrSum)
			}
		}
	}
}

// TestTornLong: P3.5, in the longest frames, and in one among others.
func TestTornLong(t *testing.T) {
	r := rand.New(rand.NewPCG(3, 6))
	f := frame.Wrap(mixed(r, 65536))
	for _, at := range []int{3, 4, 1000, 32768, 65538, 65539, 65540, 65541, 65542} {
		for bit := range 8 {
			check(t, turned(f, at, 1<<bit), "", 0, api.ErrSum)
		}
	}
	a, b := frame.Wrap("a"), frame.Wrap("bc")
	for at := 1; at < len(b); at++ {
		checkScan(t, a+turned(b, at, 0x55)+a, []string{"a"}, len(a))
	}
}
