package varint_test

import (
	"encoding/binary"
	"math"
	"strings"
	"testing"

	"silo/api"
	"silo/varint"
)

// run is n bytes b.
func run(b string, n int) string { return strings.Repeat(b, n) }

// numbers are small ones, and those around each power of two.
func numbers() []uint64 {
	var l []uint64
	for n := range uint64(1000) {
		l = append(l, n)
	}
	for bit := range 64 {
		p := uint64(1) << bit
		l = append(l, p-2, p-1, p, p+1, p+p/3, ^p)
	}
	return append(l, math.MaxUint64-1, math.MaxUint64)
}

// heads are bytes of all kinds: all of up to two, and, behind runs of bytes that aren't the last, all of two out of those at the edges.
func heads() []string {
	l := []string{""}
	for a := range 256 {
		l = append(l, string([]byte{byte(a)}))
		for b := range 256 {
			l = append(l, string([]byte{byte(a), byte(b)}))
		}
	}
	edges := []byte{0, 1, 2, 3, 0x7e, 0x7f, 0x80, 0x81, 0x82, 0xfe, 0xff}
	for _, b := range []string{"\x80", "\x81", "\xff"} {
		for n := 1; n <= 12; n++ {
			l = append(l, run(b, n))
			for _, x := range edges {
				for _, y := range edges {
					l = append(l, run(b, n)+string([]byte{x}), run(b, n)+string([]byte{x, y}))
				}
			}
		}
	}
	return l
}

// lastAt is the place of the first byte of s that no other one follows; -1: none among the first 10.
func lastAt(s string) int {
	for i := 0; i < len(s) && i < 10; i++ {
		if s[i] < 0x80 {
			return i
		}
	}
	return -1
}

// takeError is the error that P1.1 asks of Take.
func takeError(s string) api.Errno {
	last := lastAt(s)
	if last < 0 && len(s) < 10 {
		return api.ErrShort
	}
	if last < 0 || last == 9 && s[9] > 1 {
		return api.ErrRange
	}
	if last > 0 && s[last] == 0 {
		return api.ErrForm
	}
	return api.OK
}

// TestPut: P1.1, a number's bytes.
func TestPut(t *testing.T) {
	for _, c := range []struct {
		n    uint64
		want string
	}{
		{0, "\x00"},
		{1, "\x01"},
		{127, "\x7f"},
		{128, "\x80\x01"},
		{255, "\xff\x01"},
		{256, "\x80\x02"},
		{300, "\xac\x02"},
		{16383, "\xff\x7f"},
		{16384, "\x80\x80\x01"},
		{1<<56 - 1, run("\xff", 7) + "\x7f"},
		{1 << 56, run("\x80", 8) + "\x01"},
		{1<<63 - 1, run("\xff", 8) + "\x7f"},
		{1 << 63, run("\x80", 9) + "\x01"},
		{math.MaxUint64, run("\xff", 9) + "\x01"},
	} {
		if got := varint.Put(c.n); got != c.want {
			t.Errorf("Put(%d) = %x, want %x", c.n, got, c.want)
		}
	}
	for _, n := range numbers() {
		if got, want := varint.Put(n), string(binary.AppendUvarint(nil, n)); got != want {
			t.Errorf("Put(%d) = %x, want %x", n, got, want)
		}
	}
}

// TestTake: P1.1, the number, how many bytes, and the errors at their edges.
func TestTake(t *testing.T) {
	for _, c := range []struct {
		s    string
		n    uint64
		used int
		err  api.Errno
	}{
		{"\x00", 0, 1, api.OK},
		{"\x00\x00", 0, 1, api.OK},
		{"\x7f", 127, 1, api.OK},
		{"\x01\xff\xff", 1, 1, api.OK},
		{"\xac\x02", 300, 2, api.OK},
		{"\xac\x02\x00", 300, 2, api.OK},
		{"\x80\x80\x01", 16384, 3, api.OK},
		{run("\xff", 8) + "\x7f", 1<<63 - 1, 9, api.OK},
		{run("\x80", 9) + "\x01", 1 << 63, 10, api.OK},
		{run("\xff", 9) + "\x01", math.MaxUint64, 10, api.OK},
		{run("\xff", 9) + "\x01\xff", math.MaxUint64, 10, api.OK},

		{"", 0, 0, api.ErrShort},
		{"\x80", 0, 0, api.ErrShort},
		{"\xff\xff", 0, 0, api.ErrShort},
		{run("\x80", 9), 0, 0, api.ErrShort},
		{run("\xff", 9), 0, 0, api.ErrShort},

		{run("\x80", 9) + "\x02", 0, 0, api.ErrRange},
		{run("\xff", 9) + "\x7f", 0, 0, api.ErrRange},
		{run("\x80", 10), 0, 0, api.ErrRange},
		{run("\x80", 9) + "\x81\x00", 0, 0, api.ErrRange},
		{run("\x80", 10) + "\x00", 0, 0, api.ErrRange},
		{run("\x80", 10) + "\x01", 0, 0, api.ErrRange},
		{run("\xff", 100), 0, 0, api.ErrRange},

		{"\x80\x00", 0, 0, api.ErrForm},
		{"\x81\x00", 0, 0, api.ErrForm},
		{"\xff\x00\x01", 0, 0, api.ErrForm},
		{"\x80\x80\x00", 0, 0, api.ErrForm},
		{run("\xff", 8) + "\x00", 0, 0, api.ErrForm},
		{run("\x80", 9) + "\x00", 0, 0, api.ErrForm},
		{run("\xff", 9) + "\x00", 0, 0, api.ErrForm},
	} {
		n, used, err := varint.Take(c.s)
		if n != c.n || used != c.used || err != c.err {
			t.Errorf("Take(%x) = %d, %d, %v, want %d, %d, %v", c.s, n, used, err, c.n, c.used, c.err)
		}
	}
}

// TestTakeAny: P1.1, 0.1, 0.3: every text is a number or has its error, with nothing beside it.
func TestTakeAny(t *testing.T) {
	for _, s := range heads() {
		n, used, err := varint.Take(s)
		if want := takeError(s); err != want {
			t.Errorf("Take(%x): %v, want %v", s, err, want)
			continue
		}
		if err != api.OK {
			if n != 0 || used != 0 {
				t.Errorf("Take(%x) = %d, %d beside %v", s, n, used, err)
			}
			continue
		}
		if wantN, wantUsed := binary.Uvarint([]byte(s)); n != wantN || used != wantUsed {
			t.Errorf("Take(%x) = %d, %d, want %d, %d", s, n, used, wantN, wantUsed)
		}
	}
}

// TestZigZag: P1.2, there and back at the edges.
func TestZigZag(t *testing.T) {
	for _, c := range []struct {
		n int64
		z uint64
	}{
		{0, 0},
		{-1, 1},
		{1, 2},
		{-2, 3},
		{2, 4},
		{63, 126},
		{-64, 127},
		{64, 128},
		{1 << 40, 1 << 41},
		{-1 << 40, 1<<41 - 1},
		{1 << 62, 1 << 63},
		{-1 << 62, 1<<63 - 1},
		{-1<<62 - 1, 1<<63 + 1},
		{math.MaxInt64, math.MaxUint64 - 1},
		{math.MinInt64 + 1, math.MaxUint64 - 2},
		{math.MinInt64, math.MaxUint64},
	} {
		if got := varint.Zig(c.n); got != c.z {
			t.Errorf("Zig(%d) = %d, want %d", c.n, got, c.z)
		}
		if got := varint.Zag(c.z); got != c.n {
			t.Errorf("Zag(%d) = %d, want %d", c.z, got, c.n)
		}
	}
}

// TestPutText: P1.3, with the length ahead; nothing of a text that is too long.
func TestPutText(t *testing.T) {
	for _, c := range []struct{ s, head string }{
		{"", "\x00"},
		{"ab", "\x02"},
		{"\x00", "\x01"},
		{"\xff\x80/", "\x03"},
		{run("a", 127), "\x7f"},
		{run("a", 128), "\x80\x01"},
		{run("a", 65535), "\xff\xff\x03"},
		{run("a", 65536), "\x80\x80\x04"},
	} {
		if got := varint.PutText(c.s); got != c.head+c.s {
			t.Errorf("PutText of %d bytes: %d bytes, not %x and it", len(c.s), len(got), c.head)
		}
	}
	for _, n := range []int{65537, 65538, 1 << 20} {
		if got := varint.PutText(run("a", n)); got != "" {
			t.Errorf("PutText of %d bytes: %d bytes, want none", n, len(got))
		}
	}
}

// TestTakeText: P1.3, the text, how many bytes in all, and the errors in their order.
func TestTakeText(t *testing.T) {
	full := run("b", 65536)
	for _, c := range []struct {
		s, text string
		used    int
		err     api.Errno
	}{
		{"\x00", "", 1, api.OK},
		{"\x00ab", "", 1, api.OK},
		{"\x02ab", "ab", 3, api.OK},
		{"\x02abc", "ab", 3, api.OK},
		{"\x02\x00\x80\xff", "\x00\x80", 3, api.OK},
		{"\x80\x01" + run("c", 129), run("c", 128), 130, api.OK},
		{"\x80\x80\x04" + full, full, 65539, api.OK},
		{"\x80\x80\x04" + full + "more", full, 65539, api.OK},

		{"", "", 0, api.ErrShort},
		{"\x80", "", 0, api.ErrShort},
		{"\x80\x00ab", "", 0, api.ErrForm},
		{run("\x80", 9) + "\x02ab", "", 0, api.ErrRange},

		{"\x81\x80\x04" + full + "b", "", 0, api.ErrRange},
		{"\x81\x80\x04", "", 0, api.ErrRange},
		{varint.Put(1<<31) + "ab", "", 0, api.ErrRange},
		{varint.Put(1<<32) + "ab", "", 0, api.ErrRange},
		{varint.Put(1<<32+1) + "ab", "", 0, api.ErrRange},
		{varint.Put(math.MaxInt64) + "ab", "", 0, api.ErrRange},
		{varint.Put(1<<63) + "ab", "", 0, api.ErrRange},
		{varint.Put(math.MaxUint64) + "ab", "", 0, api.ErrRange},

		{"\x01", "", 0, api.ErrShort},
		{"\x02a", "", 0, api.ErrShort},
		{"\x80\x80\x04" + full[1:], "", 0, api.ErrShort},
		{"\x80\x80\x04", "", 0, api.ErrShort},
	} {
		text, used, err := varint.TakeText(c.s)
		if text != c.text || used != c.used || err != c.err {
			t.Errorf("TakeText of %d bytes, %.16x: %d bytes, %d, %v, want %d bytes, %d, %v", len(c.s), c.s, len(text), used, err, len(c.text), c.used, c.err)
		}
	}
}

// TestTakeTextAny: P1.3, 0.1, 0.3: Take's error is TakeText's, and every other text is told or has its error.
func TestTakeTextAny(t *testing.T) {
	for _, s := range heads() {
		n, head, want := varint.Take(s)
		if want == api.OK && n > api.MaxText {
			want = api.ErrRange
		} else if want == api.OK && n > uint64(len(s)-head) {
			want = api.ErrShort
		}
		text, used, err := varint.TakeText(s)
		if err != want {
			t.Errorf("TakeText(%x): %v, want %v", s, err, want)
			continue
		}
		if err != api.OK {
			if text != "" || used != 0 {
				t.Errorf("TakeText(%x) = %x, %d beside %v", s, text, used, err)
			}
			continue
		}
		if end := head + int(n); text != s[head:end] || used != end {
			t.Errorf("TakeText(%x) = %x, %d, want %x, %d", s, text, used, s[head:end], end)
		}
	}
}

// TestThereAndBack: P1.4, Take of Put and any bytes behind.
func TestThereAndBack(t *testing.T) {
	for _, n := range numbers() {
		s := varint.Put(n)
		for _, behind := range []string{"", "\x00", "\x01", "\x7f", "\x80", "\xff", run("\xff", 20)} {
			got, used, err := varint.Take(s + behind)
			if got != n || used != len(s) || err != api.OK {
				t.Errorf("Take(%x + %x) = %d, %d, %v, want %d, %d", s, behind, got, used, err, n, len(s))
			}
		}
	}
}

// TestBackAndThere: P1.4, Put of what Take tells is the bytes that it took.
func TestBackAndThere(t *testing.T) {
	for _, s := range heads() {
		n, used, err := varint.Take(s)
		if err != api.OK {
			continue
		}
		if got := varint.Put(n); got != s[:used] {
			t.Errorf("Put of Take(%x) = %x, want %x", s, got, s[:used])
		}
	}
}

// TestTextThereAndBack: P1.3, P1.4 for texts, with any bytes behind.
func TestTextThereAndBack(t *testing.T) {
	for _, n := range []int{0, 1, 2, 127, 128, 129, 16383, 16384, 65535, 65536} {
		s := run("\x80", n)
		for _, behind := range []string{"", "\x00", "\xff"} {
			text, used, err := varint.TakeText(varint.PutText(s) + behind)
			if text != s || used != len(varint.PutText(s)) || err != api.OK {
				t.Errorf("TakeText of PutText of %d bytes: %d bytes, %d, %v", n, len(text), used, err)
			}
		}
	}
}

// TestBytesGoUp: P1.4, a greater number has as many bytes or more: one for each 7 bits that were begun.
func TestBytesGoUp(t *testing.T) {
	if got := len(varint.Put(0)); got != 1 {
		t.Errorf("Put(0) has %d bytes", got)
	}
	for bit := range 64 {
		least := uint64(1) << bit
		want := bit/7 + 1
		for _, n := range []uint64{least, least + (least-1)/2, least + (least - 1)} {
			if got := len(varint.Put(n)); got != want {
				t.Errorf("Put(%d) has %d bytes, want %d", n, got, want)
			}
		}
	}
}

// TestZagOfZig: P1.5, the number again, both ways.
func TestZagOfZig(t *testing.T) {
	for _, n := range numbers() {
		if got := varint.Zig(varint.Zag(n)); got != n {
			t.Errorf("Zig of Zag(%d) = %d", n, got)
		}
		if got := varint.Zag(varint.Zig(int64(n))); got != int64(n) {
			t.Errorf("Zag of Zig(%d) = %d", int64(n), got)
		}
	}
}

// TestSmallStaySmall: P1.5, of numbers with a sign, those of k bits and a sign come to less than 2^(k+1).
func TestSmallStaySmall(t *testing.T) {
	for k := range 63 {
		edge := int64(1) << k
		for _, n := range []int64{edge - 1, edge / 2, 0, -edge / 2, -edge} {
			if got := varint.Zig(n); got >= 1<<(k+1) {
				t.Errorf("Zig(%d) = %d, not below 2^%d", n, got, k+1)
			}
		}
	}
	for n := int64(-64); n < 64; n++ {
		if got := len(varint.Put(varint.Zig(n))); got != 1 {
			t.Errorf("Zig(%d) has %d bytes, want 1", n, got)
		}
	}
}
