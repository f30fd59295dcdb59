package stream_test

import (
	"math"
	"math/rand/v2"
	"slices"
	"strings"
	"testing"
	"time"
	"unsafe"

	"silo/api"
	"silo/cdc"
	"silo/stream"
)

const fox = "The quick brown fox jumps over the lazy dog"

// params are parameters as three numbers.
func params(least, usual, greatest int) api.Params {
	return api.Params{Min: least, Avg: usual, Max: greatest}
}

// slowFeed is P8.1 as the chapter words it.
func slowFeed(p api.Params, rest, s string) (string, []string) {
	both := rest + s
	var told []string
	for len(both) >= p.Max {
		n := cdc.Cut(p, both)
		told = append(told, both[:n])
		both = both[n:]
	}
	return both, told
}

// sizes is how many bytes each of some texts has.
func sizes(l []string) []int {
	var out []int
	for _, s := range l {
		out = append(out, len(s))
	}
	return out
}

// mixed is n bytes of all kinds, the same at each run.
func mixed(r *rand.Rand, n int) string {
	l := make([]byte, n)
	for i := range l {
		l[i] = byte(r.Uint32())
	}
	return string(l)
}

// rising is n bytes that go up by one, from 0 on.
func rising(n int) string {
	l := make([]byte, n)
	for i := range l {
		l[i] = byte(i)
	}
	return string(l)
}

// stubborn is n bytes 19: no hash of these has 0 in its highest 3 bits, so cuts are at Max but for a low Avg.
func stubborn(n int) string { return strings.Repeat("\x13", n) }

// texts are of all kinds of bytes, and of many lengths.
func texts() []string {
	r := rand.New(rand.NewPCG(8, 1))
	l := []string{"", "a", "ab", "abcdefghij klmnop", fox, "\u00e4\u4e16\u00df\U0001f600", "\xff\xfe\x00\xc3", rising(256), rising(700)}
	for n := range 30 {
		l = append(l, mixed(r, n), stubborn(n))
	}
	return append(l, mixed(r, 999), strings.Repeat("\x00", 600), strings.Repeat("\xff", 600), stubborn(600), strings.Repeat("ab", 300))
}

// longTexts are longer than the greatest piece.
func longTexts() []string {
	r := rand.New(rand.NewPCG(8, 2))
	return []string{mixed(r, 4095), mixed(r, 4096), mixed(r, 4097), stubborn(8191), stubborn(8192), stubborn(8193), mixed(r, 30000)}
}

// fits are fit parameters: all of the least ones, and greater ones up to the bounds.
func fits() []api.Params {
	var l []api.Params
	for _, usual := range []int{2, 4, 8} {
		for least := 1; least <= usual; least++ {
			for greatest := usual; greatest <= usual+3; greatest++ {
				l = append(l, params(least, usual, greatest))
			}
		}
	}
	for usual := 16; usual <= 4096; usual *= 2 {
		for _, least := range []int{1, usual / 4, usual - 1, usual} {
			for _, greatest := range []int{usual, usual + 1, 4 * usual, 4096} {
				if p := params(least, usual, greatest); cdc.Fit(p) {
					l = append(l, p)
				}
			}
		}
	}
	return append(l, params(1, 2, 4096), params(2, 4, 4096), params(3, 8, 17), params(2048, 2048, 4095))
}

// unfits are parameters that are not fit, each but for little.
func unfits() []api.Params {
	return []api.Params{
		{}, params(0, 4, 8), params(-1, 4, 8), params(math.MinInt, 4, 8), params(1, 1, 1), params(0, 0, 0), params(0, 1, 0), params(1, 1, 0),
		params(1, 3, 8), params(1, 6, 8), params(1, 0, 8), params(1, -4, 8), params(1, math.MinInt, 8), params(-2, -2, -2),
		params(5, 4, 8), params(9, 4, 8), params(math.MaxInt, 4, 8), params(4097, 4096, 4096),
		params(2, 4, 3), params(2, 4, 1), params(2, 4, 0), params(2, 4, -1), params(2, 4, math.MinInt), params(math.MinInt, math.MinInt, math.MinInt),
		params(2, 4, 4097), params(2, 4, math.MaxInt), params(1, 8192, 8192), params(1, 1<<62, math.MaxInt), params(math.MaxInt, math.MaxInt, math.MaxInt),
	}
}

// step is what a Feed tells: how many bytes each piece has, and what is left.
type step struct {
	told []int
	left int
}

// TestKnown: P8.1, P8.2, what was worked out outside the program: a text that comes in parts, what each Feed tells, then End.
func TestKnown(t *testing.T) {
	for _, c := range []struct {
		p     api.Params
		parts []string
		steps []step
		end   []int
	}{
		{params(2, 4, 8), []string{"ab"}, []step{{nil, 2}}, []int{2}},
		{params(2, 4, 8), []string{""}, []step{{nil, 0}}, nil},
		{params(2, 4, 8), nil, nil, nil},
		{params(2, 4, 8), []string{"abcdefghij klmnop"}, []step{{[]int{5, 5}, 7}}, []int{3, 3, 1}},
		{params(2, 4, 8), []string{"abcdefg", "hij klmnop"}, []step{{nil, 7}, {[]int{5, 5}, 7}}, []int{3, 3, 1}},
		{params(2, 4, 8), []string{"abcdefg", "h", "ij klmnop"}, []step{{nil, 7}, {[]int{5}, 3}, {[]int{5}, 7}}, []int{3, 3, 1}},
		{params(2, 4, 8), []string{"abcdefgh", "ij klmnop"}, []step{{[]int{5}, 3}, {[]int{5}, 7}}, []int{3, 3, 1}},
		{params(2, 4, 8), []string{"", "abc", "", "defghij k", "lmnop"}, []step{{nil, 0}, {nil, 3}, {nil, 3}, {[]int{5}, 7}, {[]int{5}, 7}}, []int{3, 3, 1}},
		{params(2, 4, 8), []string{"abcdefghij k", "l", "mnop"}, []step{{[]int{5}, 7}, {[]int{5}, 3}, {nil, 7}}, []int{3, 3, 1}},
		{params(2, 4, 8), []string{fox}, []step{{[]int{5, 5, 3, 3, 6, 4, 6, 3, 6}, 2}}, []int{2}},
		{params(2, 4, 8), []string{fox[:20], fox[20:]}, []step{{[]int{5, 5, 3}, 7}, {[]int{3, 6, 4, 6, 3, 6}, 2}}, []int{2}},
		{params(1, 2, 3), []string{fox[:10], fox[10:20], fox[20:30], fox[30:]}, []step{{[]int{3, 3, 2}, 2}, {[]int{2, 3, 3, 2}, 2}, {[]int{2, 3, 3, 3}, 1}, {[]int{2, 3, 2, 3, 3}, 1}}, []int{1}},
		{params(1, 4, 8), []string{fox[:5], fox[5:8], fox[8:28], fox[28:]}, []step{{nil, 5}, {[]int{6}, 2}, {[]int{5, 2, 8}, 7}, {[]int{5, 8, 2}, 7}}, []int{5, 2}},
		{params(4, 4, 4), []string{fox[:3], fox[3:4], fox[4:6], fox[6:]}, []step{{nil, 3}, {[]int{4}, 0}, {nil, 2}, {[]int{4, 4, 4, 4, 4, 4, 4, 4, 4}, 3}}, []int{3}},
		{params(3, 8, 16), []string{fox[:15], fox[15:16], fox[16:32], fox[32:]}, []step{{nil, 15}, {[]int{4}, 12}, {[]int{16}, 12}, {[]int{9}, 14}}, []int{9, 5}},
		{params(16, 64, 256), []string{fox[:20], fox[20:]}, []step{{nil, 20}, {nil, 43}}, []int{43}},
		{params(1, 2, 2), []string{"a", "b", "cde"}, []step{{nil, 1}, {[]int{2}, 0}, {[]int{2}, 1}}, []int{1}},
		{params(16, 64, 256), []string{rising(256)}, []step{{[]int{40}, 216}}, []int{84, 120, 12}},
		{params(16, 64, 256), []string{rising(255), "\xff", rising(100), rising(256)[100:]}, []step{{nil, 255}, {[]int{40}, 216}, {[]int{84}, 232}, {[]int{120, 65}, 203}}, []int{73, 118, 12}},
		{params(64, 64, 64), []string{rising(63), "\x3f", rising(164)[64:], rising(256)[164:]}, []step{{nil, 63}, {[]int{64}, 0}, {[]int{64}, 36}, {[]int{64, 64}, 0}}, nil},
		{params(1, 64, 128), []string{rising(127), "\x7f", rising(256)[128:]}, []step{{nil, 127}, {[]int{65}, 63}, {[]int{95}, 96}}, []int{84, 12}},
	} {
		checkKnown(t, c.p, c.parts, c.steps, c.end)
	}
}

// checkKnown: each part comes to its step, what is left to the end, and all of it to the text.
func checkKnown(t *testing.T, p api.Params, parts []string, steps []step, end []int) {
	t.Helper()
	var held api.Stream
	var all []string
	for i, part := range parts {
		next, told := stream.Feed(p, held, part)
		if !slices.Equal(sizes(told), steps[i].told) || len(next.Rest) != steps[i].left {
			t.Errorf("Feed(%v, %q, %q) = %q left, %q, want %d left, %v", p, held.Rest, part, next.Rest, told, steps[i].left, steps[i].told)
		}
		held, all = next, append(all, told...)
	}
	last := stream.End(p, held)
	if !slices.Equal(sizes(last), end) {
		t.Errorf("End(%v, %q) = %q, want %v", p, held.Rest, last, end)
	}
	if text := strings.Join(append(all, last...), ""); text != strings.Join(parts, "") {
		t.Errorf("Feed and End(%v, %q) tell %q", p, parts, text)
	}
}

// checkFeed: P8.1 of any rest and bytes, as the chapter words it.
func checkFeed(t *testing.T, p api.Params, rest, s string) {
	t.Helper()
	wantRest, want := slowFeed(p, rest, s)
	got, told := stream.Feed(p, api.Stream{Rest: rest}, s)
	if !slices.Equal(told, want) {
		t.Errorf("Feed(%v, %d bytes %.16x, %d bytes %.16x) tells %v bytes, want %v", p, len(rest), rest, len(s), s, sizes(told), sizes(want))
	}
	if got.Rest != wantRest {
		t.Errorf("Feed(%v, %d bytes %.16x, %d bytes %.16x) leaves %d bytes, want %d", p, len(rest), rest, len(s), s, len(got.Rest), len(wantRest))
	}
	if len(got.Rest) >= p.Max {
		t.Errorf("Feed(%v, %d bytes %.16x, %d bytes %.16x) leaves %d bytes", p, len(rest), rest, len(s), s, len(got.Rest))
	}
}

// TestFeedAny: P8.1, any rest, also one that has Max bytes or more, and any bytes, also none.
func TestFeedAny(t *testing.T) {
	rests := append(texts()[:24], mixed(rand.New(rand.NewPCG(8, 3)), 500), stubborn(300))
	for _, p := range fits() {
		for _, rest := range rests {
			for _, s := range texts() {
				checkFeed(t, p, rest, s)
			}
		}
		for _, long := range longTexts() {
			for _, other := range []string{"", "a", fox, rising(256)} {
				checkFeed(t, p, long, other)
				checkFeed(t, p, other, long)
			}
		}
	}
}

// TestFeedMax: P8.1, P8.3, a piece is told from Max bytes on, not of one byte less, wherever rest and bytes meet.
func TestFeedMax(t *testing.T) {
	r := rand.New(rand.NewPCG(8, 4))
	for _, p := range fits() {
		whole := mixed(r, p.Max)
		first := whole[:cdc.Cut(p, whole)]
		for _, at := range []int{0, 1, p.Min, p.Avg, p.Max / 2, p.Max - 2, p.Max - 1} {
			if at > p.Max-1 || at < 0 {
				continue
			}
			short, told := stream.Feed(p, api.Stream{Rest: whole[:at]}, whole[at:p.Max-1])
			if len(told) != 0 || short.Rest != whole[:p.Max-1] {
				t.Errorf("Feed(%v) of %d and %d bytes tells %v bytes, leaves %d", p, at, p.Max-1-at, sizes(told), len(short.Rest))
			}
			for _, parts := range [][2]string{{whole[:at], whole[at:]}, {short.Rest, whole[p.Max-1:]}, {whole, ""}} {
				full, told := stream.Feed(p, api.Stream{Rest: parts[0]}, parts[1])
				if !slices.Equal(told, []string{first}) || full.Rest != whole[len(first):] {
					t.Errorf("Feed(%v) of %d and %d bytes tells %v bytes, leaves %d, want %d told", p, len(parts[0]), len(parts[1]), sizes(told), len(full.Rest), len(first))
				}
			}
		}
	}
}

// TestFeedNone: P8.1, nothing behind a rest that is short changes nothing, however often.
func TestFeedNone(t *testing.T) {
	r := rand.New(rand.NewPCG(8, 5))
	for _, p := range fits() {
		for _, n := range []int{0, 1, p.Min - 1, p.Avg - 1, p.Max - 1} {
			held := api.Stream{Rest: mixed(r, n)}
			for range 3 {
				if next, told := stream.Feed(p, held, ""); len(told) != 0 || next != held {
					t.Errorf("Feed(%v, %d bytes, nothing) tells %v bytes, leaves %d", p, n, sizes(told), len(next.Rest))
				}
			}
		}
	}
}

// TestEnd: P8.2, the pieces of any rest, also of one that has Max bytes or more.
func TestEnd(t *testing.T) {
	for _, p := range fits() {
		for _, s := range append(texts(), longTexts()...) {
			if got, want := stream.End(p, api.Stream{Rest: s}), cdc.Pieces(p, s); !slices.Equal(got, want) {
				t.Errorf("End(%v, %d bytes %.16x) have %v bytes, want %v", p, len(s), s, sizes(got), sizes(want))
			}
		}
	}
}

// streamed is what Feed tells of a text that comes in parts, and then End; each rest must be below Max.
func streamed(t *testing.T, p api.Params, parts []string) []string {
	t.Helper()
	var held api.Stream
	var all []string
	for i, part := range parts {
		var told []string
		held, told = stream.Feed(p, held, part)
		all = append(all, told...)
		if len(held.Rest) >= p.Max {
			t.Errorf("Feed(%v), behind part %d of %v bytes, leaves %d", p, i, sizes(parts), len(held.Rest))
		}
	}
	return append(all, stream.End(p, held)...)
}

// checkAtOnce: P8.3 of a text that comes in parts.
func checkAtOnce(t *testing.T, p api.Params, parts []string) {
	t.Helper()
	want := cdc.Pieces(p, strings.Join(parts, ""))
	if got := streamed(t, p, parts); !slices.Equal(got, want) {
		t.Errorf("of %v, parts of %v bytes: %v bytes, want %v", p, sizes(parts), sizes(got), sizes(want))
	}
}

// even is a text in parts of n bytes.
func even(s string, n int) []string {
	var parts []string
	for len(s) > n {
		parts, s = append(parts, s[:n]), s[n:]
	}
	return append(parts, s)
}

// uneven is a text in parts of up to n bytes, some of none.
func uneven(r *rand.Rand, s string, n int) []string {
	var parts []string
	for s != "" {
		size := min(r.IntN(n+1), len(s))
		parts, s = append(parts, s[:size]), s[size:]
	}
	return parts
}

// TestTwoParts: P8.3, a text that is cut in two anywhere.
func TestTwoParts(t *testing.T) {
	for _, p := range fits() {
		for _, s := range []string{"", "a", "abcdefghij klmnop", fox, "\u00e4\u4e16\u00df\U0001f600", rising(256), stubborn(100)} {
			for at := range len(s) + 1 {
				checkAtOnce(t, p, []string{s[:at], s[at:]})
			}
		}
	}
}

// TestThreeParts: P8.3, a text that is cut in three anywhere.
func TestThreeParts(t *testing.T) {
	for _, p := range []api.Params{params(2, 4, 8), params(1, 2, 2), params(1, 2, 3), params(4, 4, 4), params(3, 8, 17), params(1, 16, 20), params(16, 64, 256)} {
		for to := range len(fox) + 1 {
			for from := range to + 1 {
				checkAtOnce(t, p, []string{fox[:from], fox[from:to], fox[to:]})
			}
		}
	}
}

// TestByteByByte: P8.3, a text of which each byte comes alone.
func TestByteByByte(t *testing.T) {
	for _, p := range fits() {
		for _, s := range texts() {
			checkAtOnce(t, p, even(s, 1))
		}
	}
	for _, p := range []api.Params{params(1, 2, 4096), params(1024, 2048, 4096), params(4096, 4096, 4096)} {
		for _, s := range longTexts() {
			checkAtOnce(t, p, even(s, 1))
		}
	}
}

// TestManyParts: P8.3, long texts in even parts around what the parameters name, and in uneven ones.
func TestManyParts(t *testing.T) {
	r := rand.New(rand.NewPCG(8, 6))
	for _, p := range fits() {
		for _, s := range []string{mixed(r, min(20*p.Max, 20000)), stubborn(3*p.Max + 1)} {
			for _, n := range []int{p.Min, p.Avg, p.Avg + 1, p.Max - 1, p.Max, p.Max + 1, 2 * p.Max, len(s)} {
				if len(s)/n > 2000 {
					continue // bytes alone, and nearly so, are for TestByteByByte
				}
				checkAtOnce(t, p, even(s, n))
				checkAtOnce(t, p, uneven(r, s, n))
			}
		}
	}
}

// TestNothing: P8.3, of nothing, however often it comes, there are no pieces.
func TestNothing(t *testing.T) {
	for _, p := range fits() {
		for _, parts := range [][]string{nil, {""}, {"", "", ""}} {
			if got := streamed(t, p, parts); len(got) != 0 {
				t.Errorf("of %v, parts %q: %q", p, parts, got)
			}
		}
	}
}

// TestTwoStreams: what is kept is in the stream alone: two that come by turns are told apart.
func TestTwoStreams(t *testing.T) {
	r := rand.New(rand.NewPCG(8, 7))
	p, q := params(2, 4, 8), params(3, 8, 17)
	a, b := mixed(r, 500), mixed(r, 500)
	var one, two api.Stream
	var gotA, gotB []string
	for i := range 50 {
		var toldA, toldB []string
		one, toldA = stream.Feed(p, one, a[10*i:10*i+10])
		two, toldB = stream.Feed(q, two, b[10*i:10*i+10])
		gotA, gotB = append(gotA, toldA...), append(gotB, toldB...)
	}
	gotA, gotB = append(gotA, stream.End(p, one)...), append(gotB, stream.End(q, two)...)
	if want := cdc.Pieces(p, a); !slices.Equal(gotA, want) {
		t.Errorf("the first of two: %v bytes, want %v", sizes(gotA), sizes(want))
	}
	if want := cdc.Pieces(q, b); !slices.Equal(gotB, want) {
		t.Errorf("the second of two: %v bytes, want %v", sizes(gotB), sizes(want))
	}
}

// TestAgain: 0.5, what is handed in is as it was, what was told can be changed, and a later call tells the same.
func TestAgain(t *testing.T) {
	p, held := params(2, 4, 8), api.Stream{Rest: "abcdefghij"}
	next, told := stream.Feed(p, held, " klmnop")
	last := stream.End(p, next)
	wantTold, wantLast := slices.Clone(told), slices.Clone(last)
	clear(told)
	clear(last)
	if held.Rest != "abcdefghij" {
		t.Errorf("Feed left %q of what it was handed", held.Rest)
	}
	again, told := stream.Feed(p, held, " klmnop")
	if again != next || !slices.Equal(told, wantTold) {
		t.Errorf("Feed again = %q left, %q, want %q left, %q", again.Rest, told, next.Rest, wantTold)
	}
	if last := stream.End(p, next); !slices.Equal(last, wantLast) {
		t.Errorf("End again = %q, want %q", last, wantLast)
	}
}

// within tells whether a text's bytes stand in another's memory.
func within(part, whole string) bool {
	if part == "" || whole == "" {
		return false
	}
	at, from := uintptr(unsafe.Pointer(unsafe.StringData(part))), uintptr(unsafe.Pointer(unsafe.StringData(whole)))
	return at+uintptr(len(part)) > from && from+uintptr(len(whole)) > at
}

// TestNewMemory: what is told shares no memory with what was handed in, nor with one another.
func TestNewMemory(t *testing.T) {
	p := params(2, 4, 8)
	for _, c := range [][2]string{{"", "ab"}, {"ab", ""}, {"ab", "cd"}, {"abcdefghij klmnop", ""}, {"", "abcdefghij klmnop"}, {"abcdefg", "hij klmnop"}, {fox, fox}, {"", rising(256)}} {
		rest, s := strings.Clone(c[0]), strings.Clone(c[1])
		next, told := stream.Feed(p, api.Stream{Rest: rest}, s)
		parts := append(slices.Clone(told), next.Rest)
		parts = append(parts, stream.End(p, next)...)
		for i, part := range parts {
			if within(part, rest) || within(part, s) {
				t.Errorf("Feed and End(%q, %q): %q stands in what was handed in", rest, s, part)
			}
			for _, other := range parts[:i] {
				if within(part, other) {
					t.Errorf("Feed and End(%q, %q): %q stands in %q", rest, s, part, other)
				}
			}
		}
	}
}

// TestUnfit: 0.1, of parameters that are not fit the calls end, too, and do not panic.
func TestUnfit(t *testing.T) {
	over := make(chan bool)
	go func() {
		for _, p := range unfits() {
			for _, rest := range []string{"", "a", fox, stubborn(9000)} {
				for _, s := range []string{"", "b", rising(256)} {
					held := api.Stream{Rest: rest}
					next, _ := stream.Feed(p, held, s)
					stream.Feed(p, next, s)
					stream.End(p, held)
					stream.End(p, next)
				}
			}
		}
		close(over)
	}()
	select {
	case <-over:
	case <-time.After(20 * time.Second):
		t.Fatal("a call does not end")
	}
}

// TestLong: 0.1, P8.3, a text of many bytes at once, and in many parts.
func TestLong(t *testing.T) {
	r := rand.New(rand.NewPCG(8, 8))
	s := mixed(r, 1<<21)
	for _, p := range []api.Params{params(1, 2, 2), params(1, 2, 4096), params(16, 64, 256), params(1024, 2048, 4096), params(4096, 4096, 4096)} {
		checkAtOnce(t, p, []string{s})
		checkAtOnce(t, p, even(s, 1000))
		checkAtOnce(t, p, []string{"", s[:1], s[1:], ""})
	}
}
