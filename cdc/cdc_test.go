package cdc_test

import (
	"math"
	"math/rand/v2"
	"slices"
	"strconv"
	"strings"
	"testing"
	"time"

	"silo/api"
	"silo/cdc"
	"silo/gear"
)

// params are parameters as three numbers.
func params(least, usual, greatest int) api.Params {
	return api.Params{Min: least, Avg: usual, Max: greatest}
}

// powers are all that Avg can be, by how often 2 divides it.
func powers() []int {
	return []int{1, 2, 4, 8, 16, 32, 64, 128, 256, 512, 1024, 2048, 4096}
}

// isFit is what the chapter says of fit parameters.
func isFit(p api.Params) bool {
	if p.Min < 1 || !slices.Contains(powers(), p.Avg) || p.Avg < 2 || p.Avg < p.Min {
		return false
	}
	return p.Max >= p.Avg && p.Max <= 4096
}

// zeros is how many of a hash's highest bits are 0.
func zeros(h uint64) int {
	digits := strconv.FormatUint(h, 2)
	if h == 0 {
		return 64
	}
	return 64 - len(digits)
}

// slowCut is P7.2 as the chapter words it.
func slowCut(p api.Params, s string) int {
	if len(s) <= p.Min {
		return len(s)
	}
	b := slices.Index(powers(), p.Avg)
	var h uint64
	for at := p.Min; at < len(s) && at < p.Max; at++ {
		h = gear.Roll(h, s[at])
		asked := b - 1
		if at < p.Avg {
			asked = b + 1
		}
		if zeros(h) >= asked {
			return at + 1
		}
	}
	if len(s) < p.Max {
		return len(s)
	}
	return p.Max
}

// slowPieces is P7.3 as the chapter words it.
func slowPieces(p api.Params, s string) []string {
	var l []string
	for s != "" {
		n := slowCut(p, s)
		l = append(l, s[:n])
		s = s[n:]
	}
	return l
}

// sizes is how many bytes each of some texts has.
func sizes(l []string) []int {
	var out []int
	for _, s := range l {
		out = append(out, len(s))
	}
	return out
}

// mixed is n bytes of all kinds, the same at each run.
func mixed(r *rand.Rand, n int) string {
	l := make([]byte, n)
	for i := range l {
		l[i] = byte(r.Uint32())
	}
	return string(l)
}

// rising is n bytes that go up by one, from 0 on.
func rising(n int) string {
	l := make([]byte, n)
	for i := range l {
		l[i] = byte(i)
	}
	return string(l)
}

// stubborn is n bytes 19: no hash of these has 0 in its highest 3 bits.
func stubborn(n int) string { return strings.Repeat("\x13", n) }

// texts are of all kinds of bytes, and of many lengths.
func texts() []string {
	l := []string{"", "ab", "abcdefghij klmnop", "\u00e4\u4e16", "\xff\xfe\x00", rising(256), rising(5000)}
	r := rand.New(rand.NewPCG(7, 1))
	for n := range 40 {
		l = append(l, mixed(r, n), strings.Repeat("\x00", n), stubborn(n))
	}
	for _, n := range []int{63, 64, 65, 255, 256, 257, 1000, 4095, 4096, 4097, 9000} {
		l = append(l, mixed(r, n), stubborn(n))
	}
	return append(l, strings.Repeat("\x00", 9000), strings.Repeat("\xff", 9000), strings.Repeat("ab", 4500), mixed(r, 30000))
}

// fits are fit parameters: all of the least ones, and greater ones up to the bounds.
func fits() []api.Params {
	var l []api.Params
	for _, usual := range []int{2, 4, 8} {
		for least := 1; least <= usual; least++ {
			for greatest := usual; greatest <= usual+3; greatest++ {
				l = append(l, params(least, usual, greatest))
			}
		}
	}
	for _, usual := range powers()[4:] {
		for _, least := range []int{1, 2, usual / 4, usual/2 + 1, usual - 1, usual} {
			for _, greatest := range []int{usual, usual + 1, 2 * usual, 4 * usual, 4095, 4096} {
				if p := params(least, usual, greatest); isFit(p) {
					l = append(l, p)
				}
			}
		}
	}
	return append(l, params(1, 2, 4096), params(2, 2, 4096), params(1, 4, 4096), params(2, 4, 8), params(3, 8, 17))
}

// unfits are parameters that are not fit, each but for little.
func unfits() []api.Params {
	return []api.Params{
		{}, params(0, 4, 8), params(-1, 4, 8), params(math.MinInt, 4, 8),
		params(1, 1, 8), params(1, 0, 8), params(0, 0, 8), params(1, 3, 8), params(1, 5, 8), params(2, 6, 8), params(1, 12, 16), params(1, 4095, 4096),
		params(1, -2, 8), params(-4, -2, 8), params(1, -4, 8), params(1, math.MinInt, 8), params(math.MinInt, math.MinInt, math.MinInt), params(1, math.MinInt, math.MinInt),
		params(5, 4, 8), params(8, 4, 8), params(9, 4, 8), params(3, 2, 4), params(4097, 4096, 4096), params(math.MaxInt, 4, 8),
		params(2, 4, 3), params(2, 4, 2), params(2, 4, 1), params(2, 4, 0), params(2, 4, -1), params(2, 4, math.MinInt), params(4096, 4096, 4095),
		params(2, 4, 4097), params(2, 4, math.MaxInt), params(4096, 4096, 4097), params(1, 8192, 8192), params(1, 8192, 4096), params(8192, 8192, 8192), params(1, 1<<62, math.MaxInt),
	}
}

// TestFit: P7.1, the bounds of each of the three.
func TestFit(t *testing.T) {
	for _, p := range []api.Params{
		params(2, 4, 8), params(1, 2, 2), params(2, 2, 2), params(1, 2, 4096), params(1, 4, 4), params(4, 4, 4),
		params(16, 64, 256), params(1, 4096, 4096), params(4096, 4096, 4096), params(2048, 2048, 2049), params(3, 8, 4095),
	} {
		if !cdc.Fit(p) {
			t.Errorf("Fit(%v) = false", p)
		}
	}
	for _, p := range unfits() {
		if cdc.Fit(p) {
			t.Errorf("Fit(%v) = true", p)
		}
	}
}

// bounds are numbers around all that the chapter names, and those that have no bounds.
func bounds() []int {
	l := []int{math.MinInt, math.MinInt + 1, -4096, -2, -1, 0, 3, 5, 6, 1 << 62, math.MaxInt - 1, math.MaxInt}
	for _, n := range append(powers(), 8192, 65536) {
		l = append(l, n-1, n, n+1)
	}
	return l
}

// TestFitAny: P7.1, 0.1, any three numbers, as the chapter words it.
func TestFitAny(t *testing.T) {
	check := func(p api.Params) {
		if got, want := cdc.Fit(p), isFit(p); got != want {
			t.Errorf("Fit(%v) = %v", p, got)
		}
	}
	for _, least := range bounds() {
		for _, usual := range bounds() {
			for _, greatest := range bounds() {
				check(params(least, usual, greatest))
			}
		}
	}
	for least := -2; least < 20; least++ {
		for usual := -2; usual < 20; usual++ {
			for greatest := -2; greatest < 20; greatest++ {
				check(params(least, usual, greatest))
			}
		}
	}
	for usual := range 5000 {
		check(params(1, usual, 4096))
		check(params(2, usual, usual))
	}
}

// TestPieces: P7.2, P7.3, pieces that were worked out outside the program.
func TestPieces(t *testing.T) {
	fox := "The quick brown fox jumps over the lazy dog"
	for _, c := range []struct {
		p    api.Params
		s    string
		want []int
	}{
		{params(2, 4, 8), "", nil},
		{params(2, 4, 8), "a", []int{1}},
		{params(2, 4, 8), "ab", []int{2}},
		{params(2, 4, 8), "abcdefghij klmnop", []int{5, 5, 3, 3, 1}},
		{params(1, 2, 3), fox, []int{3, 3, 2, 2, 3, 3, 2, 2, 3, 3, 3, 2, 3, 2, 3, 3, 1}},
		{params(1, 2, 4096), fox, []int{3, 3, 2, 2, 3, 3, 2, 2, 3, 3, 3, 2, 3, 2, 3, 3, 1}},
		{params(1, 4, 8), fox, []int{6, 5, 2, 8, 5, 8, 2, 5, 2}},
		{params(2, 4, 8), fox, []int{5, 5, 3, 3, 6, 4, 6, 3, 6, 2}},
		{params(4, 4, 4), fox, []int{4, 4, 4, 4, 4, 4, 4, 4, 4, 4, 3}},
		{params(3, 8, 16), fox, []int{4, 16, 9, 9, 5}},
		{params(8, 8, 20), fox, []int{9, 9, 9, 9, 7}},
		{params(1, 16, 4096), fox, []int{33, 10}},
		{params(16, 64, 256), fox, []int{43}},
		{params(3, 8, 16), rising(256), []int{5, 13, 14, 9, 12, 14, 8, 9, 6, 9, 11, 13, 8, 11, 9, 13, 6, 11, 15, 9, 9, 10, 9, 9, 9, 4, 1}},
		{params(16, 64, 256), rising(256), []int{40, 84, 120, 12}},
		{params(1, 64, 128), rising(256), []int{65, 95, 84, 12}},
		{params(64, 64, 64), rising(256), []int{64, 64, 64, 64}},
		{params(1, 4096, 4096), rising(256), []int{256}},
	} {
		got := cdc.Pieces(c.p, c.s)
		if !slices.Equal(sizes(got), c.want) || strings.Join(got, "") != c.s {
			t.Errorf("Pieces(%v, %q) = %q, of %v bytes, want %v", c.p, c.s, got, sizes(got), c.want)
		}
		first := 0
		if len(c.want) > 0 {
			first = c.want[0]
		}
		if cut := cdc.Cut(c.p, c.s); cut != first {
			t.Errorf("Cut(%v, %q) = %d, want %d", c.p, c.s, cut, first)
		}
	}
}

// TestAny: P7.2, P7.3, 0.1, any texts and fit parameters, as the chapter words it.
func TestAny(t *testing.T) {
	for _, p := range fits() {
		for _, s := range texts() {
			want := slowPieces(p, s)
			if got := cdc.Pieces(p, s); !slices.Equal(got, want) {
				t.Errorf("Pieces(%v, %d bytes %.16x) have %v bytes, want %v", p, len(s), s, sizes(got), sizes(want))
			}
			if got, want := cdc.Cut(p, s), slowCut(p, s); got != want {
				t.Errorf("Cut(%v, %d bytes %.16x) = %d, want %d", p, len(s), s, got, want)
			}
		}
	}
}

// TestCutShort: P7.2, all of a text that has at most Min bytes; one byte more is rolled.
func TestCutShort(t *testing.T) {
	r := rand.New(rand.NewPCG(7, 2))
	for _, p := range fits() {
		for _, n := range []int{0, 1, p.Min / 2, p.Min - 1, p.Min} {
			for _, s := range []string{mixed(r, n), strings.Repeat("\xfe", n)} {
				if got := cdc.Cut(p, s); got != n {
					t.Errorf("Cut(%v, %d bytes %.16x) = %d", p, n, s, got)
				}
			}
		}
		if p.Min == p.Max {
			continue
		}
		if got := cdc.Cut(p, mixed(r, p.Min+1)); got != p.Min+1 {
			t.Errorf("Cut(%v, %d bytes) = %d", p, p.Min+1, got)
		}
	}
}

// TestCutNone: P7.2, at the end, or Max, if no hash has enough.
func TestCutNone(t *testing.T) {
	for _, p := range fits() {
		if p.Avg < 16 {
			continue // fewer than the 3 bits that stubborn bytes lack may do
		}
		for _, n := range []int{p.Min + 1, p.Avg - 1, p.Avg, p.Avg + 1, p.Max - 1, p.Max, p.Max + 1, 2 * p.Max, 9000} {
			if got, want := cdc.Cut(p, stubborn(n)), min(n, p.Max); got != want {
				t.Errorf("Cut(%v, %d stubborn bytes) = %d, want %d", p, n, got, want)
			}
		}
	}
}

// withZeros is a text of three bytes whose hash has 0 in just so many of its highest bits, the hashes on the way in none.
func withZeros(t *testing.T, count int) string {
	t.Helper()
	for n := range 1 << 24 {
		s := string([]byte{byte(n >> 16), byte(n >> 8), byte(n)})
		if zeros(gear.Hash(s)) == count && zeros(gear.Hash(s[:2])) == 0 && zeros(gear.Hash(s[:1])) == 0 {
			return s
		}
	}
	t.Fatalf("no three bytes' hash has just %d zeros", count)
	return ""
}

// checkZeros: of Avg, 2 to the b, a hash with so many zeros behind the byte at, and none on the way, is a cut there or not.
func checkZeros(t *testing.T, b, at, count int, three string) {
	t.Helper()
	usual := powers()[b]
	p := params(at-2, usual, 4096)
	if !isFit(p) || at >= p.Max-1 {
		return // there is no such byte, or a cut there would not be told from none
	}
	asked := b - 1
	if at < usual {
		asked = b + 1
	}
	s := strings.Repeat("?", at-2) + three
	if got := cdc.Cut(p, s+stubborn(4096)) == len(s); got != (count >= asked) {
		t.Errorf("Cut(%v), %d zeros behind the byte %d: a cut: %v", p, count, at, got)
	}
}

// TestZeros: P7.2, behind a byte ahead of Avg the highest b + 1 bits must be 0, from Avg on b - 1, and no more: just ahead of Avg, at it, behind it.
func TestZeros(t *testing.T) {
	for count := range 14 {
		three := withZeros(t, count)
		for b := 2; b <= 12; b++ { // of 1 each byte from Avg on is a cut
			for at := powers()[b] - 3; at <= powers()[b]+2; at++ {
				checkZeros(t, b, at, count, three)
			}
		}
	}
}

// TestAvgTwo: P7.2, of Avg 2 no bits are asked for from the byte 2 on: there is always a cut.
func TestAvgTwo(t *testing.T) {
	for b := range 256 {
		one := string([]byte{byte(b)})
		want := 3
		if zeros(gear.Table(byte(b))) >= 2 {
			want = 2
		}
		if got := cdc.Cut(params(1, 2, 4096), "?"+one+"??"); got != want {
			t.Errorf("Cut of Min 1, Avg 2, the byte %#x at 1: %d, want %d", b, got, want)
		}
		if got := cdc.Cut(params(2, 2, 4096), "??"+one+"??"); got != 3 {
			t.Errorf("Cut of Min 2, Avg 2, the byte %#x at 2: %d, want 3", b, got)
		}
		if got := cdc.Cut(params(2, 2, 2), "??"+one); got != 2 {
			t.Errorf("Cut of 2, 2, 2, the byte %#x at 2: %d, want 2", b, got)
		}
	}
}

// TestFromMin: P7.2, the hash is rolled from 0 on at the byte Min: what is ahead of it changes no cut.
func TestFromMin(t *testing.T) {
	r := rand.New(rand.NewPCG(7, 3))
	for _, p := range fits() {
		s := mixed(r, p.Min+600)
		want := cdc.Cut(p, s)
		for range 5 {
			if got := cdc.Cut(p, mixed(r, p.Min)+s[p.Min:]); got != want {
				t.Errorf("Cut(%v) with other %d bytes ahead = %d, want %d", p, p.Min, got, want)
			}
		}
	}
}

// TestWhole: P7.4, pieces are the text, none too long, none but the last too short, none empty.
func TestWhole(t *testing.T) {
	for _, p := range fits() {
		for _, s := range texts() {
			l := cdc.Pieces(p, s)
			if strings.Join(l, "") != s {
				t.Errorf("Pieces(%v, %d bytes %.16x) are not the text", p, len(s), s)
			}
			for i, piece := range l {
				if len(piece) == 0 || len(piece) > p.Max || len(piece) < p.Min && i < len(l)-1 {
					t.Errorf("Pieces(%v, %d bytes %.16x): the piece %d of %d has %d bytes", p, len(s), s, i, len(l), len(piece))
				}
			}
		}
	}
}

// TestNoPieces: P7.3, none of nothing.
func TestNoPieces(t *testing.T) {
	for _, p := range fits() {
		if l := cdc.Pieces(p, ""); len(l) != 0 {
			t.Errorf("Pieces(%v, nothing) = %q", p, l)
		}
		if n := cdc.Cut(p, ""); n != 0 {
			t.Errorf("Cut(%v, nothing) = %d", p, n)
		}
	}
}

// TestInStep: P7.5, a text's pieces behind any of its cuts are those of what is left.
func TestInStep(t *testing.T) {
	r := rand.New(rand.NewPCG(7, 4))
	for _, p := range fits() {
		s := mixed(r, min(20*p.Avg, 20000))
		l := cdc.Pieces(p, s)
		rest := s
		for i, piece := range l {
			if cut := cdc.Cut(p, rest); cut != len(piece) {
				t.Errorf("Cut(%v) behind %d pieces = %d, want %d", p, i, cut, len(piece))
			}
			rest = rest[len(piece):]
			if got := cdc.Pieces(p, rest); !slices.Equal(got, l[i+1:]) {
				t.Errorf("Pieces(%v) behind %d pieces have %v bytes, want %v", p, i+1, sizes(got), sizes(l[i+1:]))
			}
		}
	}
}

// TestChangedAhead: P7.5, other pieces ahead of a cut, more or less of them, change nothing behind it.
func TestChangedAhead(t *testing.T) {
	r := rand.New(rand.NewPCG(7, 5))
	for _, p := range fits() {
		behind := mixed(r, 3*p.Max)
		want := cdc.Pieces(p, behind)
		others := cdc.Pieces(p, mixed(r, 10*p.Max))
		others = others[:len(others)-1] // the last one may have no cut at its end
		for _, n := range []int{0, 1, 2, len(others) / 2, len(others)} {
			got := cdc.Pieces(p, strings.Join(others[:n], "")+behind)
			if !slices.Equal(got, slices.Concat(others[:n], want)) {
				t.Errorf("Pieces(%v) behind %d others have %v bytes, want %v ahead of %v", p, n, sizes(got), sizes(others[:n]), sizes(want))
			}
		}
	}
}

// TestFirstMax: P7.5, Cut hangs on the first Max bytes alone.
func TestFirstMax(t *testing.T) {
	r := rand.New(rand.NewPCG(7, 6))
	for _, p := range fits() {
		for _, first := range []string{mixed(r, p.Max), stubborn(p.Max), strings.Repeat("\x00", p.Max)} {
			want := cdc.Cut(p, first)
			for _, behind := range []string{"a", "\xfe", "\x00", stubborn(1), mixed(r, 1), mixed(r, 64), mixed(r, 5000), strings.Repeat("\xfe", 10)} {
				if got := cdc.Cut(p, first+behind); got != want {
					t.Errorf("Cut(%v, %.16x ahead of %d bytes) = %d, want %d", p, first, len(behind), got, want)
				}
			}
		}
	}
}

// TestUnfit: 0.1, of parameters that are not fit the calls end, too, and do not panic.
func TestUnfit(t *testing.T) {
	over := make(chan bool)
	go func() {
		for _, p := range unfits() {
			for _, s := range []string{"", "a", "abcdefghij klmnop", rising(256), stubborn(9000)} {
				cdc.Cut(p, s)
				cdc.Pieces(p, s)
			}
		}
		close(over)
	}()
	select {
	case <-over:
	case <-time.After(20 * time.Second):
		t.Fatal("a call does not end")
	}
}

// TestNewMemory: 0.5, what Pieces told can be changed, and a later call tells the same.
func TestNewMemory(t *testing.T) {
	p, s := params(2, 4, 8), "abcdefghij klmnop"
	first := cdc.Pieces(p, s)
	want := slices.Clone(first)
	clear(first)
	if again := cdc.Pieces(p, s); !slices.Equal(again, want) {
		t.Errorf("Pieces again = %q, want %q", again, want)
	}
}

// TestLong: 0.1, P7.4, texts of many bytes, with the least and the greatest parameters.
func TestLong(t *testing.T) {
	r := rand.New(rand.NewPCG(7, 7))
	s := mixed(r, 1<<22)
	for _, p := range []api.Params{params(1, 2, 2), params(1, 2, 4096), params(16, 64, 256), params(1024, 2048, 4096), params(4096, 4096, 4096)} {
		l := cdc.Pieces(p, s)
		if strings.Join(l, "") != s {
			t.Errorf("Pieces(%v, 2^22 bytes) are not the text", p)
		}
		if most := len(s)/p.Min + 1; len(l) > most {
			t.Errorf("Pieces(%v, 2^22 bytes) are %d, want at most %d", p, len(l), most)
		}
	}
}
