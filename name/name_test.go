// Tests of chapter 9, by what package name exports alone.
package name_test

import (
	"math/rand"
	"slices"
	"strings"
	"testing"
	"unsafe"

	"pinstripe/api"
	"pinstripe/name"
)

// Names that may be: short and long ones, those with dots, bytes beyond ASCII, and bytes that are no UTF-8.
var good = []string{
	"a", "b", "bc", "A", " ", "\n", "\x01", "\x7f", "\\", "-", "*",
	"...", "....", ".a", "..a", "a.", "a..", ". ", "..\n", " .", "............",
	"12345678901", "123456789012",
	"é", "e\u0301", "ééééé", "éééééé", "日本", "日本語日", "😀😀😀", "\ufffd", "\u2215",
	"\x80", "\xff", "\xfe", "\xc3", "\xc0\xaf", "\xc0\x80", "a\xffb", "\xff\xff\xff\xff\xff\xff\xff\xff\xff\xff\xff\xff",
}

// Names that may not be.
var bad = []string{
	"", ".", "..",
	"/", "//", "a/", "/a", "a/b", "./", "/.", "../", "\xff/", "12345678901/", "/23456789012", "123456/89012",
	"\x00", "\x00\x00", "a\x00", "\x00a", "a\x00b", ".\x00", "\xff\x00", "12345678901\x00", "\x0023456789012", "123456\x0089012",
	"1234567890123", ".............", "éééééé1", "ééééééé", "日本語日1", "日本語日本", "😀😀😀1", "\xff\xff\xff\xff\xff\xff\xff\xff\xff\xff\xff\xff\xff",
}

// Texts that are no paths: empty, without the first stroke, with one too many, with a name that may not be.
var noPaths = []string{
	"", "a", "ab", ".", "..", "a/", "a/b", "a/b/", " /", " /a", "\x00/a", "\\", "\\a", "\xff", "é", "\u2215a", "a//",
	"//", "///", "//a", "/a/", "/a//", "/a/b/", "/a//b", "/a/b//c", "//a/b", "/a/b//",
	"/.", "/..", "/./", "/../", "/./a", "/../a", "/a/.", "/a/..", "/a/./b", "/a/../b", "/./.", "/../..",
	"/\x00", "/a\x00", "/\x00a", "/a/\x00", "/a/b\x00", "/a\x00/b", "/\x00/a",
	"/1234567890123", "/a/1234567890123", "/1234567890123/a", "/ééééééé", "/a/ééééééé",
}

// same tells whether two lists of texts are one, nil and an empty one too.
func same(a, b []string) bool {
	return slices.Equal(a, b)
}

// splits looks at what Split says; twice, as nothing is kept.
func splits(t *testing.T, path string, want ...string) {
	t.Helper()
	for range 2 {
		if l, e := name.Split(path); e != api.OK || !same(l, want) {
			t.Fatalf("Split(%q): %q, %v, want %q, ok", path, l, e, want)
		}
	}
}

// noPath looks at what all calls say of what is no path.
func noPath(t *testing.T, path string) {
	t.Helper()
	if l, e := name.Split(path); e != api.ErrName || len(l) > 0 {
		t.Fatalf("Split(%q): %q, %v, want none, %v", path, l, e, api.ErrName)
	}
	if p, s, e := name.Parent(path); e != api.ErrName || p != "" || s != "" {
		t.Fatalf("Parent(%q): %q, %q, %v, want two empty ones, %v", path, p, s, e, api.ErrName)
	}
	for _, other := range []string{"/", "/a", path, path + "/a", "/" + path} {
		within(t, path, other, false)
		within(t, other, path, false)
	}
}

// parent looks at what Parent says of a path that is not the root's.
func parent(t *testing.T, path, up, last string) {
	t.Helper()
	for range 2 {
		if p, s, e := name.Parent(path); e != api.OK || p != up || s != last {
			t.Fatalf("Parent(%q): %q, %q, %v, want %q, %q, ok", path, p, s, e, up, last)
		}
	}
}

// within looks at what Within says.
func within(t *testing.T, a, b string, want bool) {
	t.Helper()
	if got := name.Within(a, b); got != want {
		t.Fatalf("Within(%q, %q): %v, want %v", a, b, got, want)
	}
}

// path answers a path of so many names, each of one byte.
func path(n int) string {
	return strings.Repeat("/a", n)
}

// The model: the chapter told anew, by the library's means.

// modelMay tells whether there may be such a name, byte by byte.
func modelMay(s string) bool {
	for _, c := range []byte(s) {
		if c == 0 || c == '/' {
			return false
		}
	}
	return !slices.Contains([]string{"", ".", ".."}, s) && len([]byte(s)) < 13
}

// modelSplit answers the names of a path; false, if it is none.
func modelSplit(path string) ([]string, bool) {
	if path == "/" {
		return nil, true
	}
	l := strings.Split(path, "/")
	if l[0] != "" || len(l) < 2 || len(l) > 9 {
		return nil, false
	}
	for _, s := range l[1:] {
		if !modelMay(s) {
			return nil, false
		}
	}
	return l[1:], true
}

// modelWithin tells by the texts alone whether a path is within another.
func modelWithin(a, b string) bool {
	_, in := modelSplit(a)
	_, of := modelSplit(b)
	return in && of && (a == b || b == "/" || strings.HasPrefix(a, b+"/"))
}

// looksRight holds all that is said of one text against the model.
func looksRight(t *testing.T, text string) {
	t.Helper()
	if got, want := name.May(text), modelMay(text); got != want {
		t.Fatalf("May(%q): %v, want %v", text, got, want)
	}
	l, ok := modelSplit(text)
	if !ok {
		noPath(t, text)
		return
	}
	splits(t, text, l...)
	if got := name.Join(l); got != text {
		t.Fatalf("Join(%q): %q, want %q", l, got, text)
	}
	within(t, text, text, true)
	within(t, text, "/", true)
	if len(l) == 0 {
		return
	}
	last := l[len(l)-1]
	up := strings.TrimSuffix(text, "/"+last)
	if up == "" {
		up = "/"
	}
	parent(t, text, up, last)
	within(t, text, up, true)
	within(t, up, text, false)
}

// texts answers all texts of these bytes that are at most so long.
func texts(alphabet string, most int) []string {
	l := []string{""}
	for from := 0; most > 0; most-- {
		end := len(l)
		for _, s := range l[from:end] {
			for i := range len(alphabet) {
				l = append(l, s+alphabet[i:i+1])
			}
		}
		from = end
	}
	return l
}

func TestExamples(t *testing.T) {
	splits(t, "/a/bc", "a", "bc")
	splits(t, "/")
	noPath(t, "a")
	noPath(t, "/a/")
	parent(t, "/a/b", "/a", "b")
	within(t, "/a/b", "/a", true)
	within(t, "/ab", "/a", false)
}

func TestMayOfNames(t *testing.T) {
	for _, s := range good {
		if !name.May(s) {
			t.Errorf("May(%q): false, want true", s)
		}
	}
	for _, s := range bad {
		if name.May(s) {
			t.Errorf("May(%q): true, want false", s)
		}
	}
}

func TestMayOfLengths(t *testing.T) {
	for n := range 4 * api.MaxName {
		for _, b := range []string{"a", " ", "\x01", "\xff"} {
			s := strings.Repeat(b, n)
			if got, want := name.May(s), n >= 1 && n <= api.MaxName; got != want {
				t.Errorf("May of %d bytes %q: %v, want %v", n, b, got, want)
			}
		}
	}
	for _, n := range []int{255, 256, 257, 256 + api.MaxName, 65536, 65536 + 1, 65536 + api.MaxName, 1 << 20} {
		if name.May(strings.Repeat("a", n)) {
			t.Errorf("May of %d bytes: true, want false", n)
		}
	}
}

// Each byte at each place of names of all lengths: 0 and / alone may not be there.
func TestMayOfBytes(t *testing.T) {
	for n := 1; n <= api.MaxName; n++ {
		for at := range n {
			for c := range 256 {
				b := []byte(strings.Repeat("x", n))
				b[at] = byte(c)
				want := c != 0 && c != '/' && !(n == 1 && c == '.')
				if got := name.May(string(b)); got != want {
					t.Errorf("May(%q): %v, want %v", b, got, want)
				}
			}
		}
	}
}

func TestMayOfDots(t *testing.T) {
	for n := range api.MaxName + 2 {
		s := strings.Repeat(".", n)
		if got, want := name.May(s), n >= 3 && n <= api.MaxName; got != want {
			t.Errorf("May(%q): %v, want %v", s, got, want)
		}
	}
	for _, s := range []string{".a", "..a", "a.", "a..", ".a.", "a.b", ". .", ".\x01", "..\xff"} {
		if !name.May(s) {
			t.Errorf("May(%q): false, want true", s)
		}
	}
}

// Names that may be, joined, are split as they are; one that may not be makes no path of them, wherever it stands.
func TestSplitOfNames(t *testing.T) {
	for _, s := range good {
		splits(t, "/"+s, s)
		splits(t, "/a/"+s, "a", s)
		splits(t, "/"+s+"/a", s, "a")
		splits(t, "/"+s+"/"+s+"/"+s, s, s, s)
	}
	for _, s := range bad {
		if strings.Contains(s, "/") {
			continue // that is more than one name
		}
		noPath(t, s)
		noPath(t, "/a/"+s)
		noPath(t, "/"+s+"/a")
		noPath(t, "/a/"+s+"/b")
		if s != "" { // of no byte they are / and /a
			noPath(t, "/"+s)
			noPath(t, s+"/a")
		}
	}
}

func TestSplitOfNoPath(t *testing.T) {
	for _, s := range noPaths {
		noPath(t, s)
	}
}

func TestDepth(t *testing.T) {
	longest := strings.Repeat("x", api.MaxName)
	for _, s := range []string{"a", longest} {
		for n := 1; n <= api.MaxDepth; n++ {
			l := slices.Repeat([]string{s}, n)
			splits(t, strings.Repeat("/"+s, n), l...)
			noPath(t, strings.Repeat("/"+s, n)+"/")
			noPath(t, strings.Repeat("/"+s, n)+"x/\x00")
		}
		for n := api.MaxDepth + 1; n < 3*api.MaxDepth; n++ {
			noPath(t, strings.Repeat("/"+s, n))
		}
	}
	for _, n := range []int{255, 256, 257, 256 + api.MaxDepth, 65536, 65536 + api.MaxDepth} {
		noPath(t, path(n))
	}
	full := path(api.MaxDepth)
	splits(t, full[2:]+"/...", append(slices.Repeat([]string{"a"}, api.MaxDepth-1), "...")...)
	for _, tail := range []string{"/", "//", "/.", "/..", "/\x00", "/" + longest + "x", "/b/"} {
		noPath(t, full+tail)
	}
	parent(t, full, full[2:], "a")
	within(t, full, full, true)
	within(t, full, full[2:], true)
	within(t, full+"/a", full, false)
	within(t, full, full+"/a", false)
}

func TestJoin(t *testing.T) {
	for _, l := range []struct {
		names []string
		want  string
	}{
		{nil, "/"},
		{[]string{}, "/"},
		{make([]string, 0, 5), "/"},
		{[]string{"a"}, "/a"},
		{[]string{"a", "b"}, "/a/b"},
		{[]string{"b", "a", "a"}, "/b/a/a"},
		{[]string{"é", "\xff", "..."}, "/é/\xff/..."},
		// what is no list of names is joined all the same: nothing says that it is refused
		{[]string{""}, "/"},
		{[]string{"", ""}, "//"},
		{[]string{"", "a"}, "//a"},
		{[]string{"a", ""}, "/a/"},
		{[]string{"a", "", "b"}, "/a//b"},
		{[]string{"/"}, "//"},
		{[]string{"/a", "b/"}, "//a/b/"},
		{[]string{".", ".."}, "/./.."},
		{[]string{"\x00"}, "/\x00"},
		{[]string{strings.Repeat("a", 99)}, "/" + strings.Repeat("a", 99)},
		{slices.Repeat([]string{"a"}, api.MaxDepth+1), path(api.MaxDepth + 1)},
		{slices.Repeat([]string{"a"}, 1<<16), path(1 << 16)},
	} {
		for range 2 {
			if got := name.Join(l.names); got != l.want {
				t.Errorf("Join of %d names: %.40q, want %.40q", len(l.names), got, l.want)
			}
		}
	}
}

func TestParent(t *testing.T) {
	if p, s, e := name.Parent("/"); e != api.ErrArg || p != "" || s != "" {
		t.Errorf("Parent(/): %q, %q, %v, want two empty ones, %v", p, s, e, api.ErrArg)
	}
	parent(t, "/a", "/", "a")
	parent(t, "/a/bc", "/a", "bc")
	parent(t, "/bc/a", "/bc", "a")
	parent(t, "/a/a/a", "/a/a", "a")
	parent(t, "/.../..a", "/...", "..a")
	for _, s := range good {
		parent(t, "/"+s, "/", s)
		parent(t, "/a/"+s, "/a", s)
		parent(t, "/"+s+"/a", "/"+s, "a")
		parent(t, "/"+s+"/"+s, "/"+s, s)
	}
}

// From a path upwards, parent by parent, each of its names comes once, and the root is the last.
func TestParentOfParent(t *testing.T) {
	for n := range api.MaxDepth + 1 {
		p, back := name.Join(good[:n]), []string{}
		for p != "/" {
			up, s, e := name.Parent(p)
			if e != api.OK {
				t.Fatalf("Parent(%q): %v", p, e)
			}
			above, e := name.Split(up)
			if e != api.OK || name.Join(append(above, s)) != p {
				t.Fatalf("Parent(%q): %q, %q, which don't make it again", p, up, s)
			}
			back = append(back, s)
			p = up
		}
		slices.Reverse(back)
		if !same(back, good[:n]) {
			t.Errorf("the names from %q upwards: %q", good[:n], back)
		}
	}
}

func TestWithin(t *testing.T) {
	for _, l := range []struct {
		a, b string
		want bool
	}{
		{"/", "/", true},
		{"/a", "/", true},
		{"/a/b", "/", true},
		{"/a", "/a", true},
		{"/a/b", "/a/b", true},
		{"/a/b", "/a", true},
		{"/a/b/c", "/a", true},
		{"/a/b/c", "/a/b", true},
		{"/a/a/a", "/a/a", true},
		{"/.../a", "/...", true},
		// not the other way round
		{"/", "/a", false},
		{"/a", "/a/b", false},
		{"/a", "/a/b/c", false},
		{"/a/a", "/a/a/a", false},
		// the text begins alike, the names don't
		{"/ab", "/a", false},
		{"/ab/c", "/a", false},
		{"/a", "/ab", false},
		{"/a/bc", "/a/b", false},
		{"/a/b", "/a/bc", false},
		{"/a/bc/d", "/a/b", false},
		{"/a.", "/a", false},
		{"/a ", "/a", false},
		{"/....", "/...", false},
		// the same names elsewhere
		{"/a", "/b", false},
		{"/b/a", "/a", false},
		{"/a/b", "/b", false},
		{"/a/b", "/b/a", false},
		{"/a/b/c", "/a/c", false},
		{"/a/b/c", "/b/c", false},
		{"/a/b/c", "/a/b/d", false},
		{"/x/b/c", "/a/b/c", false},
		// bytes count, not what they look like
		{"/A", "/a", false},
		{"/A/b", "/a", false},
		{"/é", "/e\u0301", false},
		{"/é/a", "/e\u0301", false},
		{"/\xff", "/\xfe", false},
		{"/\xff/a", "/\xfe", false},
		{"/\xff", "/\ufffd", false},
		{"/\ufffd/a", "/\xff", false},
		{"/é", "/\xc3", false},
		{"/\xff/a", "/\xff", true},
		{"/é/日本", "/é", true},
	} {
		for range 2 {
			within(t, l.a, l.b, l.want)
		}
	}
}

// What is no path is within nothing, not even within itself, and nothing is within it.
func TestWithinOfNoPath(t *testing.T) {
	some := []string{"/", "/a", "/a/b", path(api.MaxDepth)}
	for _, s := range append(slices.Clone(noPaths), path(api.MaxDepth+1), path(api.MaxDepth+2)) {
		for _, p := range some {
			within(t, s, p, false)
			within(t, p, s, false)
		}
		for _, other := range noPaths {
			within(t, s, other, false)
			within(t, other, s, false)
		}
	}
}

// R1: every call ends, at long texts too.
func TestLongTexts(t *testing.T) {
	const n = 1 << 20
	for _, s := range []string{"a", "/", ".", "\x00", "\xff", "/a", "/.", "a/", "//a", "/123456789012", "é/"} {
		long := strings.Repeat(s, n/len(s))
		noPath(t, long)
		noPath(t, "/"+long)
		noPath(t, "/a"+long)
		if name.May(long) {
			t.Errorf("May of %q %d times: true, want false", s, n/len(s))
		}
	}
}

// R4: what Join is given is not changed, nor what is behind its end.
func TestJoinChangesNothing(t *testing.T) {
	for n := range len(good) {
		l := slices.Clone(good)
		name.Join(l[:n])
		name.Join(l[n:])
		name.Join(l[n : n+1])
		if !same(l, good) {
			t.Fatalf("Join of %d names changed them: %q", n, l)
		}
	}
}

// R4: what was answered is nobody else's: to write into it, or behind it, changes no other answer.
func TestAnswersAreApart(t *testing.T) {
	for n := 1; n <= api.MaxDepth; n++ {
		want := good[:n]
		p := name.Join(want)
		a, _ := name.Split(p)
		b, _ := name.Split(p)
		spoil(a)
		if !same(b, want) {
			t.Errorf("Split(%q): %q, behind a write into another answer", p, b)
		}
		splits(t, p, want...)
		up, s, _ := name.Parent(p)
		parent(t, p, up, s)
		within(t, p, up, true)
	}
	spoil(nil)
	a, _ := name.Split("/")
	spoil(a)
	splits(t, "/")
}

// spoil writes into all of a list, its spare room too, and behind it.
func spoil(l []string) {
	whole := l[:cap(l)]
	for i := range whole {
		whole[i] = "spoilt"
	}
	_ = append(l, "spoilt", "spoilt")
}

// The names that are answered have bytes of their own: they keep nothing of the path.
func TestNamesHaveTheirOwnBytes(t *testing.T) {
	for n := 1; n <= api.MaxDepth; n++ {
		p := strings.Clone(name.Join(good[:n]))
		l, _ := name.Split(p)
		up, last, _ := name.Parent(p)
		for _, s := range append(l, up, last) {
			if s != "/" && shares(p, s) {
				t.Errorf("what is answered of %q: %q is a piece of it", p, s)
			}
		}
	}
	one := strings.Clone("123456789012")
	if shares(one, name.Join([]string{one})) || shares(one, name.Join([]string{"", one})) {
		t.Errorf("Join: a piece of a name that it was given")
	}
}

// shares tells whether the first byte of a text is one of the other's.
func shares(whole, piece string) bool {
	from := uintptr(unsafe.Pointer(unsafe.StringData(whole)))
	at := uintptr(unsafe.Pointer(unsafe.StringData(piece)))
	return at >= from && at < from+uintptr(len(whole))
}

// All short texts of bytes that count, held against the model.
func TestAllShortTexts(t *testing.T) {
	for _, s := range texts("/.a\x00\xff", 6) {
		looksRight(t, s)
	}
	for _, s := range texts("/a", 2*api.MaxDepth) {
		looksRight(t, s)
	}
}

// All pairs of short texts, held against the model.
func TestWithinOfAllShortTexts(t *testing.T) {
	for _, l := range [][]string{texts("/.ab", 4), texts("/a", 7)} {
		for _, a := range l {
			for _, b := range l {
				within(t, a, b, modelWithin(a, b))
			}
		}
	}
}

// Long texts that are nearly paths, held against the model.
func TestNearlyPaths(t *testing.T) {
	r := rand.New(rand.NewSource(9))
	parts := slices.Concat(good, good, good, good, bad, []string{"/"})
	paths := 0
	for range 20000 {
		text := ""
		for range r.Intn(api.MaxDepth + 3) {
			text += "/" + parts[r.Intn(len(parts))]
		}
		if _, ok := modelSplit(text); ok {
			paths++
		}
		looksRight(t, text)
		b := []byte(text)
		if len(b) > 0 && r.Intn(2) == 0 {
			b[r.Intn(len(b))] = byte(r.Intn(256))
		}
		looksRight(t, string(b))
		end := r.Intn(len(text) + 1)
		looksRight(t, text[:end])
		within(t, text, text[:end], modelWithin(text, text[:end]))
		within(t, text[:end], text, modelWithin(text[:end], text))
		within(t, text, string(b), modelWithin(text, string(b)))
	}
	if paths < 1000 {
		t.Errorf("%d paths among the texts: too few to tell anything", paths)
	}
}

// Names that may be, of any bytes: joined, they are split as they are.
func TestSplitOfJoin(t *testing.T) {
	r := rand.New(rand.NewSource(90))
	for range 20000 {
		l := make([]string, r.Intn(api.MaxDepth+1))
		for i := range l {
			l[i] = anyName(r)
		}
		p := name.Join(l)
		splits(t, p, l...)
		if n := len(l); n > 0 {
			parent(t, p, name.Join(l[:n-1]), l[n-1])
			for i := range n {
				within(t, p, name.Join(l[:i]), true)
				within(t, name.Join(l[:i]), p, false)
			}
		}
	}
}

// anyName answers a name that may be, of any bytes.
func anyName(r *rand.Rand) string {
	b := make([]byte, 1+r.Intn(api.MaxName))
	for i := range b {
		for b[i] == 0 || b[i] == '/' {
			b[i] = byte(r.Intn(256))
		}
	}
	if s := string(b); s != "." && s != ".." {
		return s
	}
	return "..."
}
