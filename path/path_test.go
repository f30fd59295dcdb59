package path_test

import (
	"math/rand/v2"
	"slices"
	"strings"
	"testing"
	"time"
	"unsafe"

	"silo/path"
)

// texts are all of up to n bytes that are made of some.
func texts(of string, n int) []string {
	all := []string{""}
	last := all
	for range n {
		var longer []string
		for _, s := range last {
			for i := range len(of) {
				longer = append(longer, s+of[i:i+1])
			}
		}
		all = append(all, longer...)
		last = longer
	}
	return all
}

// lists are all of up to n texts that are made of some.
func lists(of []string, n int) [][]string {
	all := [][]string{nil}
	last := all
	for range n {
		var longer [][]string
		for _, l := range last {
			for _, s := range of {
				longer = append(longer, append(slices.Clone(l), s))
			}
		}
		all = append(all, longer...)
		last = longer
	}
	return all
}

// mixed is n bytes of all kinds.
func mixed(r *rand.Rand, n int) string {
	l := make([]byte, n)
	for i := range l {
		l[i] = byte(r.Uint32())
	}
	return string(l)
}

// named is n names, unlike each other, of up to 31 bytes.
func named(n int) []string {
	var l []string
	for i := range n {
		l = append(l, strings.Repeat(string(rune('a'+i%26)), 1+i*7%31))
	}
	return l
}

// isName is what the chapter says a name is.
func isName(s string) bool {
	for i := range len(s) {
		if s[i] == 0 || s[i] == '/' {
			return false
		}
	}
	return len(s) >= 1 && len(s) <= 31 && s != "." && s != ".."
}

// cut is what stands between the / of a text, byte by byte.
func cut(s string) []string {
	var l []string
	from := 0
	for i := range len(s) {
		if s[i] == '/' {
			l = append(l, s[from:i])
			from = i + 1
		}
	}
	return append(l, s[from:])
}

// joined is texts with a / between.
func joined(l []string) string {
	var s string
	for i, part := range l {
		if i > 0 {
			s += "/"
		}
		s += part
	}
	return s
}

// areNames tells whether texts are as many names as a path has.
func areNames(l []string) bool {
	for _, s := range l {
		if !isName(s) {
			return false
		}
	}
	return len(l) >= 1 && len(l) <= 8
}

// ordered is how two texts stand to each other as the chapter words it.
func ordered(a, b string) int {
	l, m := cut(a), cut(b)
	for i := range min(len(l), len(m)) {
		if order := byByte(l[i], m[i]); order != 0 {
			return order
		}
	}
	return sign(len(l) - len(m))
}

func byByte(a, b string) int {
	for i := range min(len(a), len(b)) {
		if a[i] != b[i] {
			return sign(int(a[i]) - int(b[i]))
		}
	}
	return sign(len(a) - len(b))
}

func sign(n int) int {
	if n < 0 {
		return -1
	}
	return min(n, 1)
}

// noNames are texts that are none.
func noNames() []string {
	return []string{
		"", ".", "..", "/", "a/", "/a", "a/b", "\x00", "a\x00", "\x00a", "./", "../..",
		strings.Repeat("a", 32), strings.Repeat("a", 255), strings.Repeat("ä", 16), strings.Repeat(".", 32),
		strings.Repeat("a", 30) + "/", strings.Repeat("a", 30) + "\x00", strings.Repeat("a", 1<<16),
	}
}

// holds holds what Fit, Split and Dir tell of a text against what the chapter says.
func holds(t *testing.T, s string) {
	t.Helper()
	l := cut(s)
	fit := areNames(l)
	if path.Fit(s) != fit {
		t.Errorf("Fit(%.80q) = %v", s, !fit)
	}
	dir := ""
	if fit {
		dir = joined(l[:len(l)-1])
	} else {
		l = nil
	}
	if got := path.Split(s); !slices.Equal(got, l) {
		t.Errorf("Split(%.80q) = %.300q, not %.300q", s, got, l)
	}
	if got := path.Dir(s); got != dir {
		t.Errorf("Dir(%.80q) = %q, not %q", s, got, dir)
	}
}

// TestExample: the chapter's examples.
func TestExample(t *testing.T) {
	if got := path.Split("a/b"); !slices.Equal(got, []string{"a", "b"}) {
		t.Errorf("Split = %q", got)
	}
	if path.Dir("a/b") != "a" || path.Dir("a") != "" {
		t.Errorf("Dir = %q, %q", path.Dir("a/b"), path.Dir("a"))
	}
	if path.Order("a/z", "a-b") != -1 {
		t.Errorf("Order = %d", path.Order("a/z", "a-b"))
	}
	if path.Fit("a//b") {
		t.Error("a//b is fit")
	}
}

// TestName: P9.1, a name: 1 to 31 bytes of any kind but 0 and /, neither . nor two of them.
func TestName(t *testing.T) {
	for _, s := range []string{
		"a", "...", "....", ".a", "a.", "..a", "a..", ". ", " .", " ", "\\", "*", "~", "\n", "\x01", "\xff", "\xc3", "ä", "COM1",
		strings.Repeat("a", 30), strings.Repeat("a", 31), strings.Repeat(".", 31), strings.Repeat("ä", 15) + "b", strings.Repeat("\xff", 31),
	} {
		if !path.Name(s) {
			t.Errorf("Name(%q) = false", s)
		}
	}
	for _, s := range noNames() {
		if path.Name(s) {
			t.Errorf("Name(%.80q) = true", s)
		}
	}
	for _, s := range texts("./\x00a\xe2", 6) {
		if path.Name(s) != isName(s) {
			t.Errorf("Name(%q) = %v", s, !isName(s))
		}
	}
}

// TestNameBytes: P9.1, each byte at each place of names of each length, among bytes that are letters or parts of such.
func TestNameBytes(t *testing.T) {
	for _, fill := range []string{"a", ".", "\xe2", "\x80"} {
		for n := 1; n <= 33; n++ {
			for at := range n {
				for b := range 256 {
					s := strings.Repeat(fill, at) + string([]byte{byte(b)}) + strings.Repeat(fill, n-1-at)
					if path.Name(s) != isName(s) {
						t.Fatalf("Name(%q) = %v", s, !isName(s))
					}
				}
			}
		}
	}
}

// TestShort: P9.1 and P9.2 of all short texts.
func TestShort(t *testing.T) {
	for _, s := range texts("a/.", 9) {
		holds(t, s)
	}
	for _, s := range texts("a/.\x00\xff", 6) {
		holds(t, s)
	}
}

// TestDepth: P9.1 and P9.2, 1 to 8 names, as long as they may be, none at either end, none that is empty.
func TestDepth(t *testing.T) {
	for n := 1; n <= 12; n++ {
		for _, name := range []string{"a", "...", strings.Repeat("b", 31)} {
			s := strings.Repeat(name+"/", n)[:n*(len(name)+1)-1]
			if path.Fit(s) != (n <= 8) {
				t.Errorf("Fit of %d names = %v", n, n > 8)
			}
			for _, other := range []string{s, s + "/", "/" + s, s + "//", "//" + s, s + "/.", "./" + s, s + "\x00", s + "b"} {
				holds(t, other)
			}
		}
	}
}

// TestPlaces: P9.1 and P9.2, a text that is no name at each place among names, and a name there.
func TestPlaces(t *testing.T) {
	for n := 1; n <= 9; n++ {
		for at := range n {
			for _, s := range append(noNames(), "c", "...", strings.Repeat("c", 31)) {
				l := named(n)
				l[at] = s
				holds(t, joined(l))
				want := ""
				if areNames(l) {
					want = joined(l)
				}
				if got := path.Join(l); got != want {
					t.Errorf("Join(%.200q) = %.80q", l, got)
				}
			}
		}
	}
}

// TestWorkedOut: P9.1 and P9.2, texts whose names were told outside the program.
func TestWorkedOut(t *testing.T) {
	for _, c := range []struct {
		s, dir string
		names  []string
	}{
		{"a", "", []string{"a"}},
		{"usr/share/doc", "usr/share", []string{"usr", "share", "doc"}},
		{".../..a/.b", ".../..a", []string{"...", "..a", ".b"}},
		{"\xff/ /ä", "\xff/ ", []string{"\xff", " ", "ä"}},
		{"1/2/3/4/5/6/7/8", "1/2/3/4/5/6/7", []string{"1", "2", "3", "4", "5", "6", "7", "8"}},
		{"1/2/3/4/5/6/7/8/9", "", nil},
		{"", "", nil},
		{"/", "", nil},
		{"a/", "", nil},
		{"/a", "", nil},
		{"a//b", "", nil},
		{"a/./b", "", nil},
		{"a/../b", "", nil},
		{"a/b/..", "", nil},
		{"a/b\x00", "", nil},
		{"a/0123456789012345678901234567890", "a", []string{"a", "0123456789012345678901234567890"}},
		{"a/01234567890123456789012345678901", "", nil},
	} {
		if got := path.Split(c.s); !slices.Equal(got, c.names) {
			t.Errorf("Split(%q) = %q", c.s, got)
		}
		if got := path.Dir(c.s); got != c.dir {
			t.Errorf("Dir(%q) = %q", c.s, got)
		}
		if path.Fit(c.s) != (len(c.names) > 0) {
			t.Errorf("Fit(%q) = %v", c.s, path.Fit(c.s))
		}
		if got := path.Join(c.names); len(c.names) > 0 && got != c.s {
			t.Errorf("Join(%q) = %q", c.names, got)
		}
	}
}

// TestJoin: P9.1, all short lists of names and of texts that are none; what is given stays.
func TestJoin(t *testing.T) {
	for _, l := range lists([]string{"a", "bc", "...", "", ".", "..", "a/b", "\x00"}, 4) {
		want := ""
		if areNames(l) {
			want = joined(l)
		}
		given := slices.Clone(l)
		if got := path.Join(l); got != want {
			t.Errorf("Join(%q) = %q, not %q", l, got, want)
		}
		if !slices.Equal(l, given) {
			t.Errorf("Join changed %q to %q", given, l)
		}
	}
	if got := path.Join([]string{}); got != "" {
		t.Errorf("Join of nothing = %q", got)
	}
	for n := 1; n <= 1000; n++ {
		want := ""
		if n <= 8 {
			want = joined(named(n))
		}
		if got := path.Join(named(n)); got != want {
			t.Errorf("Join of %d names = %.80q", n, got)
		}
	}
}

// TestOrderWorkedOut: P9.3, any texts in an order that was worked out outside the program.
func TestOrderWorkedOut(t *testing.T) {
	l := []string{
		"", "/", "//", "/a", "\x00", "\x00/\x00", "-", "-/a", ".", "..", "B", "a", "a/", "a//b", "a/\x00", "a/-", "a/.", "a/..", "a/b", "a/b/c", "a/z",
		"a\x00", "a\x00/b", "a-b", "a-b/c", "a.b", "a0", "ab", "b", "\x7f", "\x80", "\xc3\xa4", "\xc3\xa4/a", "\xff",
	}
	for i, a := range l {
		for k, b := range l {
			if got := path.Order(a, b); got != sign(i-k) {
				t.Errorf("Order(%q, %q) = %d", a, b, got)
			}
		}
	}
}

// TestOrder: P9.3, and P9.5, that it turns, of all short texts.
func TestOrder(t *testing.T) {
	for _, l := range [][]string{texts("/a", 7), texts("/\x00-", 5), texts("/.a\xff", 4)} {
		for _, a := range l {
			for _, b := range l {
				got := path.Order(a, b)
				if got != ordered(a, b) {
					t.Errorf("Order(%q, %q) = %d", a, b, got)
				}
				if back := path.Order(b, a); back != -got {
					t.Errorf("Order(%q, %q) = %d, turned %d", a, b, got, back)
				}
			}
		}
	}
}

// TestOrderBytes: P9.3, each byte against each other one, at the end, ahead of a / and behind one.
func TestOrderBytes(t *testing.T) {
	for a := range 256 {
		for b := range 256 {
			for _, around := range [][2]string{{"", ""}, {"a", ""}, {"a/", ""}, {"", "/a"}, {"a/b", "/c"}, {strings.Repeat("x/", 20), "y"}} {
				s := around[0] + string([]byte{byte(a)}) + around[1]
				other := around[0] + string([]byte{byte(b)}) + around[1]
				if got := path.Order(s, other); got != ordered(s, other) {
					t.Fatalf("Order(%q, %q) = %d", s, other, got)
				}
			}
		}
	}
}

// TestOrderLong: P9.3, texts beyond what a path may be, that are unlike at some place, or end there.
func TestOrderLong(t *testing.T) {
	r := rand.New(rand.NewPCG(9, 3))
	for range 300 {
		n := r.IntN(2000)
		s := []byte(mixed(r, n+1))
		for i := range s {
			if r.IntN(4) == 0 {
				s[i] = '/'
			}
		}
		other := slices.Clone(s)
		other[r.IntN(len(other))] = byte(r.Uint32())
		other = append(other, mixed(r, r.IntN(3))...)
		a, b := string(s), string(other[:len(other)-r.IntN(2)])
		if got := path.Order(a, b); got != ordered(a, b) {
			t.Errorf("Order(%q, %q) = %d", a, b, got)
		}
		if got := path.Order(a, a); got != 0 {
			t.Errorf("Order of %q and itself = %d", a, got)
		}
		if at := r.IntN(len(a)); path.Order(a[:at], a) != ordered(a[:at], a) {
			t.Errorf("Order(%q, %q) = %d", a[:at], a, path.Order(a[:at], a))
		}
	}
}

// TestThereAndBack: P9.4, Join of Split is the path, and Split of Join is the names.
func TestThereAndBack(t *testing.T) {
	for _, s := range texts("a/.\xff", 7) {
		l := path.Split(s)
		if path.Fit(s) != (path.Join(l) == s && s != "") {
			t.Errorf("Join(Split(%q)) = %q", s, path.Join(l))
		}
	}
	r := rand.New(rand.NewPCG(9, 4))
	for range 20000 {
		var l []string
		for range 1 + r.IntN(8) {
			name := strings.NewReplacer("/", "s", "\x00", "z").Replace(mixed(r, 1+r.IntN(31)))
			if name == "." || name == ".." {
				name += "..."
			}
			l = append(l, name)
		}
		s := path.Join(l)
		if s != joined(l) || !path.Fit(s) {
			t.Fatalf("Join(%q) = %q", l, s)
		}
		if got := path.Split(s); !slices.Equal(got, l) {
			t.Fatalf("Split(Join(%q)) = %q", l, got)
		}
	}
}

// TestBelow: P9.5, what is below a directory stands behind it, and ahead of all others that are behind it.
func TestBelow(t *testing.T) {
	var paths []string
	for _, s := range append(texts("a/-", 5), texts("/.a\xff", 4)...) {
		if path.Fit(s) {
			paths = append(paths, s)
		}
	}
	for _, dir := range paths {
		for _, s := range paths {
			below := strings.HasPrefix(s, dir+"/")
			if below && path.Order(dir, s) != -1 {
				t.Errorf("%q does not stand behind %q", s, dir)
			}
			if below || path.Order(dir, s) != -1 {
				continue
			}
			for _, deep := range []string{dir + "/\xff", dir + "/\xff\xff\xff/\xff", dir + "/a", dir + "/-/a"} {
				if path.Order(deep, s) != -1 {
					t.Errorf("%q does not stand ahead of %q", deep, s)
				}
			}
		}
	}
}

// TestSorted: P9.5, paths that are sorted: whatever is below a directory comes right behind it, without a gap.
func TestSorted(t *testing.T) {
	var paths []string
	for _, s := range texts("a/-b", 6) {
		if path.Fit(s) {
			paths = append(paths, s)
		}
	}
	rand.New(rand.NewPCG(9, 5)).Shuffle(len(paths), func(i, k int) { paths[i], paths[k] = paths[k], paths[i] })
	slices.SortFunc(paths, path.Order)
	for i, dir := range paths {
		inside := true
		for _, s := range paths[i+1:] {
			below := strings.HasPrefix(s, dir+"/")
			if below && !inside {
				t.Fatalf("%q stands apart from %q", s, dir)
			}
			inside = below
		}
		for _, s := range paths[:i] {
			if strings.HasPrefix(s, dir+"/") {
				t.Fatalf("%q stands ahead of %q", s, dir)
			}
		}
	}
}

// TestNewMemory: 0.5, what is told shares no memory with what was given, nor with what is told again.
func TestNewMemory(t *testing.T) {
	for _, s := range []string{"ab", "ab/c", "a/b/c/d/e/f/g/h"} {
		s = strings.Clone(s)
		inside := func(part string) bool {
			first, at := uintptr(unsafe.Pointer(unsafe.StringData(s))), uintptr(unsafe.Pointer(unsafe.StringData(part)))
			return at >= first && at < first+uintptr(len(s))
		}
		l := path.Split(s)
		for _, name := range l {
			if inside(name) {
				t.Errorf("Split(%q) tells its own memory", s)
			}
		}
		if dir := path.Dir(s); dir != "" && inside(dir) {
			t.Errorf("Dir(%q) tells its own memory", s)
		}
		if inside(path.Join([]string{s[:1]})) {
			t.Errorf("Join of the name %q tells its own memory", s[:1])
		}
		again := path.Split(s)
		l[0] = "other"
		if again[0] == "other" || path.Split(s)[0] == "other" {
			t.Errorf("Split(%q) tells one list twice", s)
		}
	}
}

// TestAny: 0.1, any arguments, up to the greatest: each call ends, and none panics.
func TestAny(t *testing.T) {
	r := rand.New(rand.NewPCG(9, 6))
	large := []string{
		strings.Repeat("a", 1<<16), strings.Repeat("/", 1<<16), strings.Repeat("a/", 1<<15), strings.Repeat("../", 1<<14), strings.Repeat("\x00", 1<<16),
		"/" + strings.Repeat("a", 1<<16-1), strings.Repeat("a", 1<<16-1) + "/", mixed(r, 1<<16), "",
	}
	done := make(chan bool)
	go func() {
		defer close(done)
		for _, s := range large {
			if path.Name(s) || path.Fit(s) || path.Split(s) != nil || path.Dir(s) != "" {
				t.Errorf("%.20q.. is told to be a name or a path", s)
			}
			if got := path.Join(slices.Repeat([]string{s}, 1000)); got != "" {
				t.Errorf("Join of a thousand %.20q.. = %.20q", s, got)
			}
			for _, other := range append(large, s[:len(s)/2], s+"a", "a") {
				if got := path.Order(s, other); got != sign(slices.Compare(strings.Split(s, "/"), strings.Split(other, "/"))) {
					t.Errorf("Order(%.20q.., %.20q..) = %d", s, other, got)
				}
			}
		}
	}()
	select {
	case <-done:
	case <-time.After(20 * time.Second):
		t.Fatal("a call does not end")
	}
}
