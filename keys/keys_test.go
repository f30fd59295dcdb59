package keys_test

import (
	"encoding/hex"
	"math/rand/v2"
	"slices"
	"strings"
	"testing"

	"silo/api"
	"silo/keys"
)

// mixed is n bytes of all kinds, the same at each run.
func mixed(r *rand.Rand, n int) string {
	l := make([]byte, n)
	for i := range l {
		l[i] = byte(r.Uint32())
	}
	return string(l)
}

// ending is a key that ends so, zeros ahead.
func ending(end string) string { return strings.Repeat("\x00", 32-len(end)) + end }

// beginning is a key that begins so, zeros behind.
func beginning(head string) string { return head + strings.Repeat("\x00", 32-len(head)) }

// rising are keys in their order, unlike in the first byte, in the last alone, and on both sides of 7f.
func rising() []string {
	return []string{
		ending(""), ending("\x01"), ending("\xff"), ending("\x01\x00"),
		beginning("A"), beginning("a"), beginning("\x7f"), beginning("\x80"), beginning("\xff"),
	}
}

// noKeys are texts of other lengths than a key's.
func noKeys() []string {
	r := rand.New(rand.NewPCG(5, 1))
	return []string{"", "a", mixed(r, 16), ending("a")[:31], ending("a")[1:], ending("a") + "\x00", mixed(r, 64), mixed(r, 1<<16)}
}

// lists are all of up to n texts that are made of some.
func lists(of []string, n int) [][]string {
	all := [][]string{nil}
	last := all
	for range n {
		var longer [][]string
		for _, l := range last {
			for _, s := range of {
				longer = append(longer, append(slices.Clone(l), s))
			}
		}
		all = append(all, longer...)
		last = longer
	}
	return all
}

// few are some keys and some texts that are none, just beside them.
func few() []string {
	k := rising()
	return []string{k[0], k[1], k[8], k[0][1:], k[1] + "\x00"}
}

// subsets are all the sets that some keys in their order have.
func subsets(of []string) [][]string {
	var all [][]string
	for which := range 1 << len(of) {
		var l []string
		for i, k := range of {
			if which>>i&1 == 1 {
				l = append(l, k)
			}
		}
		all = append(all, l)
	}
	return all
}

// numbered is as many keys as asked for, in their order, by every step'th number.
func numbered(count, step int) []string {
	var l []string
	for i := range count {
		n := i * step
		l = append(l, ending(string([]byte{byte(n >> 16), byte(n >> 8), byte(n)})))
	}
	return l
}

// isSet is what the chapter says a set is.
func isSet(l []string) bool {
	for i, k := range l {
		if len(k) != 32 {
			return false
		}
		for _, ahead := range l[:i] {
			if ahead >= k {
				return false
			}
		}
	}
	return true
}

// picked is those of a and b of which in says so, in their order.
func picked(a, b []string, in func(a, b bool) bool) []string {
	all := map[string]bool{}
	for _, k := range slices.Concat(a, b) {
		all[k] = true
	}
	var out []string
	for k := range all {
		if in(slices.Contains(a, k), slices.Contains(b, k)) {
			out = append(out, k)
		}
	}
	slices.Sort(out)
	return out
}

// two is a call for two sets, and what it picks.
type two struct {
	name string
	call func(a, b []string) []string
	in   func(a, b bool) bool
}

func twos() []two {
	return []two{
		{"Join", keys.Join, func(a, b bool) bool { return a || b }},
		{"Both", keys.Both, func(a, b bool) bool { return a && b }},
		{"Less", keys.Less, func(a, b bool) bool { return a && !b }},
	}
}

// TestFit: P5.1, a set: keys, which rise, none twice.
func TestFit(t *testing.T) {
	k := rising()
	for _, l := range [][]string{nil, {}, {k[0]}, {k[8]}, {k[0], k[1]}, {k[0], k[8]}, {k[5], k[7]}, k, numbered(1<<16, 1)} {
		if !keys.Fit(l) {
			t.Errorf("Fit of %d keys that rise = false", len(l))
		}
	}
	for _, l := range [][]string{
		{k[1], k[0]}, {k[8], k[0]}, {k[7], k[6]}, {k[5], k[4]}, {k[3], k[2]},
		{k[0], k[0]}, {k[3], k[3]}, {k[0], k[1], k[1]}, {k[0], k[0], k[1]},
		{k[0], k[1], k[0]}, {k[0], k[2], k[1]}, {k[1], k[0], k[2]}, {k[0], k[2], k[1], k[3]},
		slices.Concat(numbered(1<<16-1, 1), k[:1]),
	} {
		if keys.Fit(l) {
			t.Errorf("Fit of %d keys that do not rise = true: %.4x", len(l), l[:2])
		}
	}
}

// TestFitNoKeys: P5.1, texts of another length, wherever they stand.
func TestFitNoKeys(t *testing.T) {
	k := rising()
	for _, s := range noKeys() {
		if keys.Fit([]string{s}) {
			t.Errorf("Fit of a text of %d bytes = true", len(s))
		}
		for at := range len(k) + 1 {
			l := slices.Insert(slices.Clone(k), at, s)
			if keys.Fit(l) {
				t.Errorf("Fit of keys and a text of %d bytes at %d = true", len(s), at)
			}
			slices.Sort(l)
			if keys.Fit(l) {
				t.Errorf("Fit of keys and a text of %d bytes in its order = true", len(s))
			}
		}
	}
}

// TestFitAny: P5.1, all short lists of some keys and texts beside them.
func TestFitAny(t *testing.T) {
	for _, l := range lists(few(), 4) {
		if got, want := keys.Fit(l), isSet(l); got != want {
			t.Errorf("Fit(%x) = %v", l, got)
		}
	}
}

// setOf is what P5.1 asks of Of.
func setOf(l []string) []string {
	return picked(slices.DeleteFunc(slices.Clone(l), func(s string) bool { return len(s) != 32 }), nil, func(a, b bool) bool { return a })
}

// TestOf: P5.1, keys in any order, also twice, and texts that are none.
func TestOf(t *testing.T) {
	k := rising()
	for _, c := range []struct{ l, want []string }{
		{nil, nil},
		{[]string{k[0]}, []string{k[0]}},
		{[]string{k[0], k[0]}, []string{k[0]}},
		{[]string{k[8], k[0]}, []string{k[0], k[8]}},
		{[]string{k[7], k[6], k[7]}, []string{k[6], k[7]}},
		{[]string{k[2], "", k[3], k[1], k[2]}, []string{k[1], k[2], k[3]}},
		{slices.Concat(noKeys(), k, noKeys()), k},
		{noKeys(), nil},
	} {
		if got := keys.Of(c.l); !slices.Equal(got, c.want) {
			t.Errorf("Of(%.40x) = %x, want %x", c.l, got, c.want)
		}
	}
}

// TestOfAny: P5.1, 0.5, all short lists of some keys and texts beside them, which stay as they are.
func TestOfAny(t *testing.T) {
	for _, l := range lists(few(), 4) {
		was := slices.Clone(l)
		got := keys.Of(l)
		if want := setOf(was); !slices.Equal(got, want) {
			t.Errorf("Of(%x) = %x, want %x", was, got, want)
		}
		if !slices.Equal(l, was) {
			t.Errorf("Of made %x of %x", l, was)
		}
	}
}

// TestHas: P5.1, each key of each set, and each text that is not in it.
func TestHas(t *testing.T) {
	asked := slices.Concat(rising(), noKeys())
	for _, k := range rising() {
		asked = append(asked, k[:31], k[1:], k+"\x00", "\x00"+k, k[:31]+"\x02")
	}
	for _, l := range subsets(rising()) {
		for _, k := range asked {
			if got, want := keys.Has(l, k), slices.Contains(l, k); got != want {
				t.Errorf("Has(%x, %.40x) = %v", l, k, got)
			}
		}
	}
}

// TestHasMany: P5.1, sets of each size up to 70, and the greatest: each key, and each between two.
func TestHasMany(t *testing.T) {
	for n := range 71 {
		l, all := numbered(n, 2), numbered(2*n+2, 1)
		for i, k := range all {
			if got, want := keys.Has(l, k), i%2 == 0 && i < 2*n; got != want {
				t.Errorf("Has of %d keys, %x: %v", n, k, got)
			}
		}
	}
	l, all := numbered(1<<16, 2), numbered(1<<17, 1)
	for i, k := range all {
		if got, want := keys.Has(l, k), i%2 == 0; got != want {
			t.Fatalf("Has of 2^16 keys, %x: %v", k, got)
		}
	}
}

// TestTwoSets: P5.2, what is in one, in both, in the first alone.
func TestTwoSets(t *testing.T) {
	k := rising()
	for _, c := range []struct{ a, b, join, both, less []string }{
		{nil, nil, nil, nil, nil},
		{k[:1], k[:1], k[:1], k[:1], nil},
		{k[:3], nil, k[:3], nil, k[:3]},
		{nil, k[:3], k[:3], nil, nil},
		{k[:2], k[2:], k, nil, k[:2]},
		{k[2:], k[:2], k, nil, k[2:]},
		{k[:5], k[3:], k, k[3:5], k[:3]},
		{k[3:], k[:5], k, k[3:5], k[5:]},
		{k, k[2:4], k, k[2:4], slices.Concat(k[:2], k[4:])},
		{k[2:4], k, k, k[2:4], nil},
	} {
		for _, x := range []struct {
			name      string
			got, want []string
		}{
			{"Join", keys.Join(c.a, c.b), c.join},
			{"Both", keys.Both(c.a, c.b), c.both},
			{"Less", keys.Less(c.a, c.b), c.less},
		} {
			if !slices.Equal(x.got, x.want) {
				t.Errorf("%s(%x, %x) = %x, want %x", x.name, c.a, c.b, x.got, x.want)
			}
		}
	}
}

// TestTwoSetsAny: P5.2, P5.4, 0.5, each set of some keys and each other: what is told is a set, goes with Has, and leaves both as they are.
func TestTwoSetsAny(t *testing.T) {
	some := rising()[2:8]
	for _, a := range subsets(some) {
		for _, b := range subsets(some) {
			wasA, wasB := slices.Clone(a), slices.Clone(b)
			for _, x := range twos() {
				got := x.call(a, b)
				if want := picked(wasA, wasB, x.in); !slices.Equal(got, want) {
					t.Errorf("%s(%x, %x) = %x, want %x", x.name, wasA, wasB, got, want)
				}
				if !keys.Fit(got) {
					t.Errorf("%s(%x, %x) is no set", x.name, wasA, wasB)
				}
				for _, k := range rising() {
					if has := keys.Has(got, k); has != x.in(keys.Has(a, k), keys.Has(b, k)) {
						t.Errorf("Has of %s(%x, %x), %x: %v", x.name, a, b, k, has)
					}
				}
				if !slices.Equal(a, wasA) || !slices.Equal(b, wasB) {
					t.Fatalf("%s made %x, %x of %x, %x", x.name, a, b, wasA, wasB)
				}
			}
		}
	}
}

// TestTwoSetsMany: P5.2, P5.4, the greatest sets.
func TestTwoSetsMany(t *testing.T) {
	all := numbered(1<<17, 1)
	first, second, even := all[:1<<16], all[1<<15:1<<15+1<<16], numbered(1<<16, 2)
	for _, c := range [][2][]string{{first, second}, {second, first}, {first, even}, {even, first}, {first, all[1<<16:]}, {first, all[7:8]}, {all[7:8], first}} {
		in := [2]map[string]bool{{}, {}}
		for side, l := range c {
			for _, k := range l {
				in[side][k] = true
			}
		}
		for _, x := range twos() {
			var want []string
			for _, k := range all {
				if x.in(in[0][k], in[1][k]) {
					want = append(want, k)
				}
			}
			if got := x.call(c[0], c[1]); !slices.Equal(got, want) {
				t.Errorf("%s of %d and %d keys: %d keys, want %d", x.name, len(c[0]), len(c[1]), len(got), len(want))
			}
		}
	}
}

// TestNoSets: 0.1, 0.5, Has, Join, Both and Less of what are no sets end, and leave it as it is.
func TestNoSets(t *testing.T) {
	r := rand.New(rand.NewPCG(5, 2))
	all := lists(few(), 3)
	for range 2000 {
		a, b := all[r.IntN(len(all))], all[r.IntN(len(all))]
		wasA, wasB := slices.Clone(a), slices.Clone(b)
		for _, x := range twos() {
			x.call(a, b)
		}
		keys.Has(a, few()[r.IntN(len(few()))])
		if !slices.Equal(a, wasA) || !slices.Equal(b, wasB) {
			t.Fatalf("%x, %x came to be of %x, %x", a, b, wasA, wasB)
		}
	}
}

// TestNone: 0.7, an empty list is none.
func TestNone(t *testing.T) {
	k := rising()
	for _, empty := range [][]string{nil, {}, k[:0]} {
		if l := keys.Of(empty); l != nil {
			t.Errorf("Of of nothing = %#v", l)
		}
		for _, other := range [][]string{nil, {}, k[:0]} {
			for _, x := range twos() {
				if l := x.call(empty, other); l != nil {
					t.Errorf("%s of nothing = %#v", x.name, l)
				}
			}
		}
		for _, l := range [][]string{keys.Both(empty, k), keys.Both(k, empty), keys.Less(empty, k)} {
			if l != nil {
				t.Errorf("nothing is told as %#v", l)
			}
		}
	}
	for _, l := range [][]string{keys.Of(noKeys()), keys.Both(k[:3], k[3:]), keys.Less(k, k)} {
		if l != nil {
			t.Errorf("nothing is told as %#v", l)
		}
	}
}

// TestAnew: 0.5, what is told is the caller's: neither its keys nor what may be appended to it stand in what was handed in.
func TestAnew(t *testing.T) {
	k := rising()
	calls := []func(l []string) []string{
		keys.Of,
		func(l []string) []string { return keys.Join(l, nil) },
		func(l []string) []string { return keys.Join(nil, l) },
		func(l []string) []string { return keys.Join(l, l) },
		func(l []string) []string { return keys.Join(l[:1], l[1:]) },
		func(l []string) []string { return keys.Both(l, l) },
		func(l []string) []string { return keys.Less(l, nil) },
	}
	for i, call := range calls {
		whole := slices.Clone(k)
		got := call(whole[:5])
		if !slices.Equal(got, k[:5]) {
			t.Fatalf("call %d = %x, want %x", i, got, k[:5])
		}
		again := call(whole[:5])
		for at := range got {
			got[at] = "changed"
		}
		_ = append(got, "appended", "behind")
		if !slices.Equal(whole, k) || !slices.Equal(again, k[:5]) {
			t.Errorf("call %d shares memory with what it was given or told", i)
		}
	}
}

// TestOfOrder: P5.4, Of is the same of any order, a set, and itself of a set.
func TestOfOrder(t *testing.T) {
	r := rand.New(rand.NewPCG(5, 3))
	for range 300 {
		l := slices.Concat(rising(), noKeys(), few())
		for range r.IntN(40) {
			l = append(l, mixed(r, 31+r.IntN(3)), l[r.IntN(len(l))])
		}
		want := setOf(l)
		for range 5 {
			r.Shuffle(len(l), func(i, j int) { l[i], l[j] = l[j], l[i] })
			got := keys.Of(l)
			if !slices.Equal(got, want) || !keys.Fit(got) {
				t.Fatalf("Of of %d texts: %d, want %d", len(l), len(got), len(want))
			}
			if again := keys.Of(got); !slices.Equal(again, got) {
				t.Fatalf("Of of a set of %d keys: %d", len(got), len(again))
			}
		}
	}
	most := numbered(1<<16, 1)
	l := slices.Clone(most)
	r.Shuffle(len(l), func(i, j int) { l[i], l[j] = l[j], l[i] })
	if !slices.Equal(keys.Of(l), most) {
		t.Error("Of of 2^16 keys in another order is another set")
	}
}

// TestSetsOfSets: P5.4, what is told of sets is handed in again.
func TestSetsOfSets(t *testing.T) {
	r := rand.New(rand.NewPCG(5, 4))
	var universe []string
	for range 60 {
		universe = append(universe, mixed(r, 32))
	}
	universe = keys.Of(append(universe, rising()...))
	sets := [][]string{nil}
	for range 3000 {
		var some []string
		for range r.IntN(30) {
			some = append(some, universe[r.IntN(len(universe))])
		}
		a, b := sets[r.IntN(len(sets))], keys.Of(some)
		x := twos()[r.IntN(3)]
		got := x.call(a, b)
		if !keys.Fit(got) {
			t.Fatalf("%s of sets of %d and %d keys is no set", x.name, len(a), len(b))
		}
		for _, k := range universe {
			if has := keys.Has(got, k); has != x.in(keys.Has(a, k), keys.Has(b, k)) {
				t.Fatalf("Has of %s of sets of %d and %d keys: %v", x.name, len(a), len(b), has)
			}
		}
		sets = append(sets, got, b)
	}
}

// TestHex: P5.3, any bytes, two digits each.
func TestHex(t *testing.T) {
	for _, c := range []struct{ k, want string }{
		{"", ""},
		{"\x1f", "1f"},
		{"\xf1", "f1"},
		{"\x00", "00"},
		{"\x0a\xa0", "0aa0"},
		{"\x9a\xff", "9aff"},
		{"\x01\x23\x45\x67\x89\xab\xcd\xef", "0123456789abcdef"},
		{"abc", "616263"},
		{"\u00e4\u4e16", "c3a4e4b896"},
		{ending("\x01"), strings.Repeat("0", 63) + "1"},
		{beginning("\xba\x78"), "ba78" + strings.Repeat("0", 60)},
	} {
		if got := keys.Hex(c.k); got != c.want {
			t.Errorf("Hex(%q) = %q, want %q", c.k, got, c.want)
		}
	}
}

// TestHexAny: P5.3, each byte, and bytes of any number.
func TestHexAny(t *testing.T) {
	var l []string
	for b := range 256 {
		l = append(l, string([]byte{byte(b)}))
	}
	r := rand.New(rand.NewPCG(5, 5))
	for n := range 200 {
		l = append(l, mixed(r, n))
	}
	for _, k := range append(l, mixed(r, 1<<16), mixed(r, 1<<20)) {
		if got := keys.Hex(k); got != hex.EncodeToString([]byte(k)) {
			t.Errorf("Hex of %d bytes %.40x is another text", len(k), k)
		}
	}
}

// checkUnhex holds Unhex against what is wanted.
func checkUnhex(t *testing.T, s, key string, err api.Errno) {
	t.Helper()
	if got, gotErr := keys.Unhex(s); got != key || gotErr != err {
		t.Errorf("Unhex(%.80q) = %x, %v, want %x, %v", s, got, gotErr, key, err)
	}
}

// TestUnhex: P5.3, keys that are known.
func TestUnhex(t *testing.T) {
	checkUnhex(t, strings.Repeat("0", 64), ending(""), api.OK)
	checkUnhex(t, strings.Repeat("0", 63)+"1", ending("\x01"), api.OK)
	checkUnhex(t, "1"+strings.Repeat("0", 63), beginning("\x10"), api.OK)
	checkUnhex(t, strings.Repeat("f", 64), strings.Repeat("\xff", 32), api.OK)
	checkUnhex(t, strings.Repeat("0123456789abcdef", 4), strings.Repeat("\x01\x23\x45\x67\x89\xab\xcd\xef", 4), api.OK)
	checkUnhex(t, strings.Repeat("1f", 32), strings.Repeat("\x1f", 32), api.OK)
}

// TestUnhexLength: P5.3, digits of any other number than 64.
func TestUnhexLength(t *testing.T) {
	for n := range 200 {
		if n != 64 {
			checkUnhex(t, strings.Repeat("a", n), "", api.ErrForm)
		}
	}
	s := strings.Repeat("0123456789abcdef", 4)
	for _, bad := range []string{s + s, s + "\x00", " " + s, s + " ", s + "\n", "0x" + s, strings.Repeat("a", 1<<16), strings.Repeat("a", 1<<20)} {
		checkUnhex(t, bad, "", api.ErrForm)
	}
}

// TestUnhexDigits: P5.3, 0.3, each byte at each place.
func TestUnhexDigits(t *testing.T) {
	s := strings.Repeat("0123456789abcdef", 4)
	for at := range 64 {
		for b := range 256 {
			l := []byte(s)
			l[at] = byte(b)
			if strings.IndexByte("0123456789abcdef", byte(b)) < 0 {
				checkUnhex(t, string(l), "", api.ErrForm)
				continue
			}
			want, err := hex.DecodeString(string(l))
			if err != nil {
				t.Fatal(err)
			}
			checkUnhex(t, string(l), string(want), api.OK)
		}
	}
	for _, bad := range []string{strings.ToUpper(s), "0x" + s[2:], "0X" + s[2:], "+" + s[1:], "-" + s[1:], s[:62] + "\u00e4", s[:61] + "\uff10", "0_0" + s[3:], strings.Repeat("g", 64), strings.Repeat("\x00", 64), strings.Repeat("\xff", 64)} {
		checkUnhex(t, bad, "", api.ErrForm)
	}
}

// TestThereAndBack: P5.5, Unhex of Hex of a key is it, and Hex of Unhex of 64 digits these.
func TestThereAndBack(t *testing.T) {
	r := rand.New(rand.NewPCG(5, 6))
	l := rising()
	for b := range 256 {
		l = append(l, strings.Repeat(string([]byte{byte(b)}), 32))
	}
	for range 2000 {
		l = append(l, mixed(r, 32))
	}
	for _, k := range l {
		s := keys.Hex(k)
		checkUnhex(t, s, k, api.OK)
		got, _ := keys.Unhex(s)
		if keys.Hex(got) != s {
			t.Errorf("Hex of Unhex(%s) = %s", s, keys.Hex(got))
		}
	}
	for _, s := range noKeys() {
		checkUnhex(t, keys.Hex(s), "", api.ErrForm)
	}
}
