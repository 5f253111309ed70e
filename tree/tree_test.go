// Tests of chapter 10, by what package tree exports alone: this file has the names, bytes_test.go what is written and read.
package tree_test

import (
	"cmp"
	"fmt"
	"maps"
	"math"
	"math/rand"
	"slices"
	"strings"
	"testing"
	"unsafe"

	"pinstripe/api"
	"pinstripe/tree"
	"pinstripe/wire"
)

// Texts that are no paths.
var noPaths = []string{
	"", "a", "a/b", " /a", "//", "/a/", "//a", "/a//b", "/a/b/", "/.", "/..", "/./a", "/a/.", "/a/..", "/../a", "/a/../b",
	"/\x00", "/a\x00", "/a/\x00b", "/1234567890123", "/a/1234567890123", "/ééééééé", strings.Repeat("/a", 9), strings.Repeat("/a", 1000),
}

// Names in the order of their bytes, which is no dictionary's, nor that of their lengths.
var rising = []string{
	"\x01", " ", " a", "-", "...", "0", "10", "123456789012", "2", "A", "Z", "_", "a", "a\x01", "a b", "a.", "aa", "aaa", "ab", "b", "z", "\x7f", "\x80", "é", "日", "\xff", "\xff\xff",
}

// The model: the chapter told anew.

// kept is a thing.
type kept struct {
	ino int
	dir bool
}

// model has each thing by its path, however deep, the root as "".
type model map[string]kept

func newModel() model {
	return model{"": {1, true}}
}

// cut answers a path without its last name, and that name.
func cut(path string) (string, string) {
	i := strings.LastIndexByte(path, '/')
	return path[:i], path[i+1:]
}

// may tells whether there may be such a name.
func may(s string) bool {
	return s != "" && s != "." && s != ".." && len(s) <= 12 && !strings.ContainsAny(s, "/\x00")
}

// isPath tells whether a text is a path.
func isPath(s string) bool {
	l := strings.Split(s, "/")
	bad := func(s string) bool { return !may(s) }
	return s == "/" || len(l) >= 2 && len(l) <= 9 && l[0] == "" && !slices.ContainsFunc(l[1:], bad)
}

// key answers a path as the model has it.
func key(path string) string {
	return strings.TrimSuffix(path, "/")
}

func (m model) look(path string) (kept, api.Errno) {
	if !isPath(path) {
		return kept{}, api.ErrName
	}
	whole := key(path)
	for n := range len(whole) {
		if whole[n] != '/' || n == 0 {
			continue
		}
		if x, ok := m[whole[:n]]; !ok {
			return kept{}, api.ErrNone
		} else if !x.dir {
			return kept{}, api.ErrFile
		}
	}
	x, ok := m[whole]
	if !ok {
		return kept{}, api.ErrNone
	}
	return x, api.OK
}

// room answers why there can't be a new thing by a path.
func (m model) room(path string) api.Errno {
	if path == "/" {
		return api.ErrThere
	}
	if !isPath(path) {
		return api.ErrName
	}
	above, _ := cut(path)
	x, e := m.look(cmp.Or(above, "/"))
	if e != api.OK {
		return e
	}
	if !x.dir {
		return api.ErrFile
	}
	if _, ok := m[path]; ok {
		return api.ErrThere
	}
	return api.OK
}

func (m model) make(path string, dir bool) (int, api.Errno) {
	if e := m.room(path); e != api.OK {
		return 0, e
	}
	if len(m) >= 128 {
		return 0, api.ErrFull
	}
	l := m.inos()
	ino := 2
	for slices.Contains(l, ino) {
		ino++
	}
	m[path] = kept{ino, dir}
	return ino, api.OK
}

func (m model) remove(path string, dir bool) (int, api.Errno) {
	x, e := m.look(path)
	switch {
	case e != api.OK:
		return 0, e
	case path == "/":
		return 0, api.ErrBusy
	case dir && !x.dir:
		return 0, api.ErrFile
	case !dir && x.dir:
		return 0, api.ErrDir
	case len(m.list(path)) > 0:
		return 0, api.ErrNotEmpty
	}
	delete(m, path)
	return x.ino, api.OK
}

func (m model) move(path, to string) api.Errno {
	if _, e := m.look(path); e != api.OK {
		return e
	}
	if path == "/" {
		return api.ErrBusy
	}
	if !isPath(to) {
		return api.ErrName
	}
	if to == "/" || to == path || strings.HasPrefix(to, path+"/") || strings.HasPrefix(path, to+"/") {
		return api.ErrArg
	}
	if e := m.room(to); e != api.OK {
		return e
	}
	for s, x := range maps.Clone(m) {
		if s == path || strings.HasPrefix(s, path+"/") {
			delete(m, s)
			m[to+strings.TrimPrefix(s, path)] = x
		}
	}
	return api.OK
}

// list answers what is in a directory.
func (m model) list(path string) []api.Entry {
	l := []api.Entry{}
	for s, x := range m {
		if s == "" {
			continue
		}
		if above, last := cut(s); above == key(path) {
			l = append(l, api.Entry{Name: last, Ino: x.ino, Dir: x.dir})
		}
	}
	slices.SortFunc(l, func(a, b api.Entry) int { return slices.Compare([]byte(a.Name), []byte(b.Name)) })
	return l
}

// inos answers all numbers, rising.
func (m model) inos() []int {
	l := []int{}
	for _, x := range m {
		l = append(l, x.ino)
	}
	slices.Sort(l)
	return l
}

// bytes answers what is written.
func (m model) bytes() string {
	rows := map[int]string{}
	for s, x := range m {
		if s != "" {
			above, last := cut(s)
			rows[x.ino] = row(x.ino, m[above].ino, last, x.dir)
		}
	}
	l := []string{}
	for _, ino := range slices.Sorted(maps.Keys(rows)) {
		l = append(l, rows[ino])
	}
	return form(l...)
}

// num answers a number of two bytes.
func num(x int) string {
	return string([]byte{byte(x >> 8), byte(x)})
}

// row answers what is written of a thing.
func row(ino, up int, s string, dir bool) string {
	return num(ino) + num(up) + num(len(s)) + s + map[bool]string{false: "\x00", true: "\x01"}[dir]
}

// form answers what is written of these rows.
func form(rows ...string) string {
	return num(len(rows)) + strings.Join(rows, "")
}

// Both are asked, and held against each other.

// pair is a tree and what is to be told of it.
type pair struct {
	*tree.Tree
	m model
}

func newPair() pair {
	return pair{tree.New(), newModel()}
}

// clone answers both, apart.
func (p pair) clone() pair {
	return pair{p.Clone(), maps.Clone(p.m)}
}

// makes does a Make.
func (p pair) makes(t *testing.T, path string, dir bool) api.Errno {
	t.Helper()
	ino, want := p.m.make(path, dir)
	if got, e := p.Make(path, dir); got != ino || e != want {
		t.Fatalf("Make(%q, %v) in %v: %d, %v, want %d, %v", path, dir, p.m, got, e, ino, want)
	}
	return want
}

// removes does a Remove.
func (p pair) removes(t *testing.T, path string, dir bool) api.Errno {
	t.Helper()
	ino, want := p.m.remove(path, dir)
	if got, e := p.Remove(path, dir); got != ino || e != want {
		t.Fatalf("Remove(%q, %v) in %v: %d, %v, want %d, %v", path, dir, p.m, got, e, ino, want)
	}
	return want
}

// moves does a Move.
func (p pair) moves(t *testing.T, path, to string) api.Errno {
	t.Helper()
	want := p.m.move(path, to)
	if e := p.Move(path, to); e != want {
		t.Fatalf("Move(%q, %q) in %v: %v, want %v", path, to, p.m, e, want)
	}
	return want
}

// looks asks for what stands at a path.
func (p pair) looks(t *testing.T, path string) {
	t.Helper()
	x, want := p.m.look(path)
	if ino, dir, e := p.Look(path); ino != x.ino || dir != x.dir || e != want {
		t.Fatalf("Look(%q) in %v: %d, %v, %v, want %d, %v, %v", path, p.m, ino, dir, e, x.ino, x.dir, want)
	}
	l := []api.Entry{}
	if x.dir {
		l = p.m.list(path)
	} else if want == api.OK {
		want = api.ErrFile
	}
	if got, e := p.List(path); e != want || !slices.Equal(got, l) {
		t.Fatalf("List(%q) in %v: %v, %v, want %v, %v", path, p.m, got, e, l, want)
	}
}

// isRight holds all that can be asked of both against each other.
func (p pair) isRight(t *testing.T, what string) {
	t.Helper()
	if got, want := written(t, p.Tree), p.m.bytes(); got != want {
		t.Fatalf("%s: %q is written, want %q", what, got, want)
	}
	inos := p.m.inos()
	if got := p.Inos(); !slices.Equal(got, inos) {
		t.Fatalf("%s: Inos: %v, want %v", what, got, inos)
	}
	for ino := -1; ino <= api.MaxInodes+2; ino++ {
		if got, want := p.Has(ino), slices.Contains(inos, ino); got != want {
			t.Fatalf("%s: Has(%d): %v, want %v", what, ino, got, want)
		}
	}
	for s := range p.m {
		p.looks(t, cmp.Or(s, "/"))
		p.looks(t, s+"/nothing")
	}
}

// written answers what a tree writes.
func written(t *testing.T, x *tree.Tree) string {
	t.Helper()
	p := &wire.Pen{}
	x.Write(p)
	b, e := p.Bytes()
	if e != api.OK {
		t.Fatalf("what is written: %v", e)
	}
	return string(b)
}

// planted answers a tree of these paths, in this order; those of directories end with a stroke.
func planted(t *testing.T, paths ...string) pair {
	t.Helper()
	p := newPair()
	for _, s := range paths {
		if e := p.makes(t, key(s), strings.HasSuffix(s, "/")); e != api.OK {
			t.Fatalf("Make(%q): %v", s, e)
		}
	}
	return p
}

// garden is a tree with some of each kind: /a/b/ has names, /d/ has none.
func garden(t *testing.T) pair {
	t.Helper()
	p := planted(t, "/a/", "/f", "/a/b/", "/a/g", "/d/", "/a/b/h", "/a/b/c/")
	p.isRight(t, "the garden")
	return p
}

// is looks at an error.
func is(t *testing.T, what string, got, want api.Errno) {
	t.Helper()
	if got != want {
		t.Errorf("%s: %v, want %v", what, got, want)
	}
}

func TestExamples(t *testing.T) {
	r := tree.New()
	for _, l := range []struct{ got, want string }{
		{fmt.Sprint(r.Make("/a", true)), "2 ok"},
		{fmt.Sprint(r.Make("/a/f", false)), "3 ok"},
		{fmt.Sprint(r.Make("/a/f", false)), "0 there already"},
		{fmt.Sprint(r.Remove("/a", true)), "0 not empty"},
		{fmt.Sprint(r.Move("/a", "/a/b")), "argument"},
		{fmt.Sprint(r.Move("/a/f", "/g")), "ok"},
		{fmt.Sprint(r.List("/")), "[{a 2 true} {g 3 false}] ok"},
	} {
		if l.got != l.want {
			t.Errorf("%s, want %s", l.got, l.want)
		}
	}
}

func TestNew(t *testing.T) {
	p := newPair()
	p.isRight(t, "a new one")
	if ino, dir, e := p.Look("/"); ino != 1 || !dir || e != api.OK {
		t.Errorf("Look(/): %d, %v, %v", ino, dir, e)
	}
	if written(t, p.Tree) != "\x00\x00" {
		t.Errorf("of the root alone %q is written", written(t, p.Tree))
	}
}

func TestLook(t *testing.T) {
	p := garden(t)
	for _, l := range []struct {
		path string
		ino  int
		dir  bool
		e    api.Errno
	}{
		{"/", 1, true, api.OK},
		{"/a", 2, true, api.OK},
		{"/f", 3, false, api.OK},
		{"/a/b", 4, true, api.OK},
		{"/a/g", 5, false, api.OK},
		{"/a/b/h", 7, false, api.OK},
		{"/a/b/c", 8, true, api.OK},
		// there is no such name: at the end, in the midst, at the beginning
		{"/x", 0, false, api.ErrNone},
		{"/a/x", 0, false, api.ErrNone},
		{"/a/f", 0, false, api.ErrNone},
		{"/a/x/h", 0, false, api.ErrNone},
		{"/x/b/h", 0, false, api.ErrNone},
		{"/d/d", 0, false, api.ErrNone},
		{"/A", 0, false, api.ErrNone},
		{"/ a", 0, false, api.ErrNone},
		// a file in the midst
		{"/f/x", 0, false, api.ErrFile},
		{"/f/f", 0, false, api.ErrFile},
		{"/a/g/x", 0, false, api.ErrFile},
		{"/a/b/h/x/y/z", 0, false, api.ErrFile},
		// from the left, of two
		{"/f/x/y", 0, false, api.ErrFile},
		{"/x/f/y", 0, false, api.ErrNone},
		{"/a/x/g/y", 0, false, api.ErrNone},
		// no path, whatever else holds
		{"/f/..", 0, false, api.ErrName},
		{"/f/x/", 0, false, api.ErrName},
		{"/x/\x00", 0, false, api.ErrName},
		{"/x/.", 0, false, api.ErrName},
		{"/a/", 0, false, api.ErrName},
		{"/a/.", 0, false, api.ErrName},
		{"/a/b/..", 0, false, api.ErrName},
		{"/f/2/3/4/5/6/7/8", 0, false, api.ErrFile},
		{"/x/2/3/4/5/6/7/8", 0, false, api.ErrNone},
		{"/f/2/3/4/5/6/7/8/9", 0, false, api.ErrName},
		{"/x/2/3/4/5/6/7/8/9", 0, false, api.ErrName},
	} {
		for range 2 {
			if ino, dir, e := p.Look(l.path); ino != l.ino || dir != l.dir || e != l.e {
				t.Errorf("Look(%q): %d, %v, %v, want %d, %v, %v", l.path, ino, dir, e, l.ino, l.dir, l.e)
			}
		}
		if got, e := p.List(l.path); e != l.e && !(l.e == api.OK && !l.dir && e == api.ErrFile) || e != api.OK && len(got) != 0 {
			t.Errorf("List(%q): %v, %v, where Look says %v", l.path, got, e, l.e)
		}
		p.looks(t, l.path)
	}
	p.isRight(t, "behind Look")
}

// What is no path is told so by each call ahead of all else.
func TestNoPaths(t *testing.T) {
	for name, p := range map[string]pair{"a new one": newPair(), "the garden": garden(t), "a full one": full(t)} {
		for _, s := range noPaths {
			p.looks(t, s)
			for _, dir := range []bool{false, true} {
				is(t, fmt.Sprintf("%s: Make(%q)", name, s), p.makes(t, s, dir), api.ErrName)
				is(t, fmt.Sprintf("%s: Remove(%q)", name, s), p.removes(t, s, dir), api.ErrName)
			}
			for _, to := range []string{"/", "/a", "/new", "/a/b", "/f/x", s, s + "/a", "/" + s} {
				is(t, fmt.Sprintf("%s: Move(%q, %q)", name, s, to), p.moves(t, s, to), api.ErrName)
			}
		}
		p.isRight(t, name)
	}
}

func TestMake(t *testing.T) {
	for _, dir := range []bool{false, true} {
		for _, l := range []struct {
			path string
			want api.Errno
		}{
			{"/", api.ErrThere},
			{"/x", api.OK},
			{"/a/x", api.OK},
			{"/d/x", api.OK},
			{"/a/b/c/x", api.OK},
			{"/123456789012", api.OK},
			{"/a/...", api.OK},
			{"/A", api.OK},
			{"/aa", api.OK},
			// the name is there, be it a file's or a directory's
			{"/a", api.ErrThere},
			{"/f", api.ErrThere},
			{"/a/b", api.ErrThere},
			{"/a/g", api.ErrThere},
			{"/d", api.ErrThere},
			// the parent is not
			{"/x/a", api.ErrNone},
			{"/x/y/a", api.ErrNone},
			{"/a/x/b", api.ErrNone},
			{"/a/f/x", api.ErrNone},
			// it is a file
			{"/f/x", api.ErrFile},
			{"/f/f", api.ErrFile},
			{"/a/g/x", api.ErrFile},
			{"/f/x/y", api.ErrFile},
			// no path, whatever else holds
			{"/f/..", api.ErrName},
			{"/x/.", api.ErrName},
			{"/f/", api.ErrName},
			{"/a/", api.ErrName},
			{"/x/y/1234567890123", api.ErrName},
			{"/f/1234567890123", api.ErrName},
			{"/f/2/3/4/5/6/7/8", api.ErrFile},
			{"/f/2/3/4/5/6/7/8/9", api.ErrName},
			{"/x/2/3/4/5/6/7/8", api.ErrNone},
			{"/x/2/3/4/5/6/7/8/9", api.ErrName},
		} {
			p := garden(t)
			is(t, fmt.Sprintf("Make(%q, %v)", l.path, dir), p.makes(t, l.path, dir), l.want)
			p.isRight(t, fmt.Sprintf("behind Make(%q, %v)", l.path, dir))
		}
	}
}

// A path has at most MaxDepth names: the directory that stands there can't have any.
func TestDepth(t *testing.T) {
	p, s := newPair(), ""
	for n := range api.MaxDepth {
		is(t, "a directory in another", p.makes(t, s+"/file", false), api.OK)
		s += "/dir"
		is(t, "a directory in another", p.makes(t, s, true), api.OK)
		p.isRight(t, fmt.Sprint("of ", n+1, " names"))
	}
	is(t, "a thing of one name more", p.makes(t, s+"/x", true), api.ErrName)
	p.isRight(t, "of MaxDepth names")
	for range api.MaxDepth {
		is(t, "Remove of a directory", p.removes(t, s, true), api.OK)
		s, _ = cut(s)
		is(t, "Remove of the file beside it", p.removes(t, s+"/file", false), api.OK)
	}
	newPair().isRight(t, "a new one")
	p.isRight(t, "the root alone")
	if got := written(t, p.Tree); got != "\x00\x00" {
		t.Errorf("of the root alone %q is written", got)
	}
}

// full answers a tree of MaxInodes things: the root, /a/, /a/b/, a file in it, and files beside them.
func full(t *testing.T) pair {
	t.Helper()
	p := planted(t, "/a/", "/a/b/", "/a/b/h")
	for n := 5; n <= api.MaxInodes; n++ {
		if e := p.makes(t, fmt.Sprint("/n", n), false); e != api.OK {
			t.Fatalf("thing %d: %v", n, e)
		}
	}
	p.isRight(t, "a full one")
	return p
}

func TestMaxInodes(t *testing.T) {
	p := full(t)
	if n := len(p.Inos()); n != api.MaxInodes {
		t.Fatalf("%d things, want %d", n, api.MaxInodes)
	}
	for range 2 {
		for _, dir := range []bool{false, true} {
			is(t, "one more", p.makes(t, "/x", dir), api.ErrFull)
			is(t, "one more in a directory", p.makes(t, "/a/b/x", dir), api.ErrFull)
			// all else is told ahead of it
			is(t, "the root", p.makes(t, "/", dir), api.ErrThere)
			is(t, "one that is there", p.makes(t, "/a", dir), api.ErrThere)
			is(t, "one that is there", p.makes(t, "/n77", dir), api.ErrThere)
			is(t, "one in nothing", p.makes(t, "/x/y", dir), api.ErrNone)
			is(t, "one in a file", p.makes(t, "/n77/y", dir), api.ErrFile)
			is(t, "one by no path", p.makes(t, "/x/..", dir), api.ErrName)
		}
		p.isRight(t, "a full one, behind what was refused")
	}
	is(t, "Move in a full one", p.moves(t, "/a", "/z"), api.OK)
	is(t, "Move back", p.moves(t, "/z", "/a"), api.OK)
	is(t, "Remove in a full one", p.removes(t, "/n77", false), api.OK)
	p.isRight(t, "one short of a full one")
	is(t, "the last one", p.makes(t, "/a/b/x", true), api.OK)
	is(t, "one more", p.makes(t, "/n77", false), api.ErrFull)
	p.isRight(t, "a full one again")
	if ino, dir, e := p.Look("/a/b/x"); ino != 77 || !dir || e != api.OK {
		t.Errorf("the last one: %d, %v, %v, want 77, true, ok", ino, dir, e)
	}
}

// A new thing has the least number that is free, in whichever order things went.
func TestLeastNumber(t *testing.T) {
	r := rand.New(rand.NewSource(10))
	for range 30 {
		p := full(t)
		gone := r.Perm(api.MaxInodes - 4)[:1+r.Intn(40)]
		for _, i := range gone {
			is(t, "Remove", p.removes(t, fmt.Sprint("/n", i+5), false), api.OK)
		}
		slices.Sort(gone)
		for k, i := range gone {
			path := fmt.Sprint("/new", k)
			ino, e := p.Make(path, k%2 == 0)
			if ino != i+5 || e != api.OK {
				t.Fatalf("Make: %d, %v, want %d, ok: the least of %v from %d on, each 5 more", ino, e, i+5, gone, k)
			}
			p.m.make(path, k%2 == 0)
		}
		is(t, "one more", p.makes(t, "/more", false), api.ErrFull)
		p.isRight(t, "filled again")
	}
}

func TestRemove(t *testing.T) {
	for _, l := range []struct {
		path string
		dir  bool
		want api.Errno
	}{
		{"/f", false, api.OK},
		{"/a/g", false, api.OK},
		{"/a/b/h", false, api.OK},
		{"/d", true, api.OK},
		{"/a/b/c", true, api.OK},
		{"/", true, api.ErrBusy},
		{"/", false, api.ErrBusy},
		{"/f", true, api.ErrFile},
		{"/a/b/h", true, api.ErrFile},
		{"/d", false, api.ErrDir},
		{"/a", false, api.ErrDir}, // though it has names
		{"/a/b", false, api.ErrDir},
		{"/a", true, api.ErrNotEmpty},
		{"/a/b", true, api.ErrNotEmpty},
		{"/x", false, api.ErrNone},
		{"/x", true, api.ErrNone},
		{"/a/x", true, api.ErrNone},
		{"/x/y", false, api.ErrNone},
		{"/f/x", false, api.ErrFile},
		{"/f/x", true, api.ErrFile},
		{"/a/g/x/y", false, api.ErrFile},
		{"/a/", true, api.ErrName},
		{"/f/..", false, api.ErrName},
	} {
		p := garden(t)
		what := fmt.Sprintf("Remove(%q, %v)", l.path, l.dir)
		is(t, what, p.removes(t, l.path, l.dir), l.want)
		p.isRight(t, "behind "+what)
		if l.want == api.OK {
			is(t, what+" again", p.removes(t, l.path, l.dir), api.ErrNone)
			is(t, "Make behind "+what, p.makes(t, l.path, !l.dir), api.OK)
			p.isRight(t, "behind "+what+" and Make")
		}
	}
	p := newPair()
	is(t, "the root, that has no names", p.removes(t, "/", true), api.ErrBusy)
	is(t, "the root, that has no names", p.removes(t, "/", false), api.ErrBusy)
	p.isRight(t, "behind Remove of the root")
}

func TestMove(t *testing.T) {
	for _, l := range []struct {
		path, to string
		want     api.Errno
	}{
		{"/f", "/x", api.OK},
		{"/f", "/a/f", api.OK},
		{"/f", "/d/f", api.OK},
		{"/f", "/ff", api.OK},
		{"/a", "/aa", api.OK}, // within the text, not within the path
		{"/a", "/d/a", api.OK},
		{"/a", "/d/d", api.OK},
		{"/a/b", "/b", api.OK},
		{"/a/b", "/d/b", api.OK},
		{"/a/b/c", "/a/c", api.OK},
		{"/a/b/c", "/c", api.OK},
		{"/a/b/h", "/a/h", api.OK},
		{"/a/g", "/a/b/g", api.OK},
		{"/d", "/a/b/c/d", api.OK},
		{"/d", "/a/d", api.OK},
		// the root
		{"/", "/x", api.ErrBusy},
		{"/", "/", api.ErrBusy},
		{"/", "/a", api.ErrBusy},
		{"/", "/a/x", api.ErrBusy},
		{"/", "/x/y", api.ErrBusy},
		{"/", "/f/y", api.ErrBusy},
		{"/", "x", api.ErrBusy},
		{"/", "", api.ErrBusy},
		// what is not there
		{"/x", "/y", api.ErrNone},
		{"/x", "/x", api.ErrNone},
		{"/x", "/x/y", api.ErrNone},
		{"/x", "/", api.ErrNone},
		{"/x", "/a", api.ErrNone},
		{"/x", "y", api.ErrNone},
		{"/x", "/f/y", api.ErrNone},
		{"/a/x", "/a", api.ErrNone},
		{"/x/y", "/y", api.ErrNone},
		{"/f/x", "/y", api.ErrFile},
		{"/f/x", "/f", api.ErrFile},
		{"/f/x", "y", api.ErrFile},
		{"/f/", "/y", api.ErrName},
		// to what is no path
		{"/f", "x", api.ErrName},
		{"/f", "", api.ErrName},
		{"/f", "/", api.ErrArg},
		{"/f", "/f/", api.ErrName},
		{"/f", "/f/..", api.ErrName},
		{"/a", "/a/b/.", api.ErrName},
		{"/a", "/x/1234567890123", api.ErrName},
		{"/a", "/f/\x00", api.ErrName},
		{"/a", "/a/2/3/4/5/6/7/8/9", api.ErrName},
		// to itself, to what is below it, to what it is below
		{"/f", "/f", api.ErrArg},
		{"/a", "/a", api.ErrArg},
		{"/a/b", "/a/b", api.ErrArg},
		{"/a", "/a/x", api.ErrArg},
		{"/a", "/a/b", api.ErrArg},
		{"/a", "/a/b/x", api.ErrArg},
		{"/a", "/a/x/y", api.ErrArg}, // though there is no /a/x
		{"/a", "/a/g/y", api.ErrArg}, // though it is a file
		{"/a", "/a/2/3/4/5/6/7/8", api.ErrArg},
		{"/f", "/f/x", api.ErrArg},
		{"/f", "/f/x/y", api.ErrArg},
		{"/a/b", "/a", api.ErrArg},
		{"/a/b/h", "/a", api.ErrArg},
		{"/a/b/h", "/a/b", api.ErrArg},
		{"/a/g", "/", api.ErrArg},
		{"/a", "/", api.ErrArg},
		// to what is there
		{"/f", "/a", api.ErrThere},
		{"/f", "/d", api.ErrThere},
		{"/f", "/a/g", api.ErrThere},
		{"/a", "/f", api.ErrThere},
		{"/a", "/d", api.ErrThere},
		{"/d", "/a", api.ErrThere},
		{"/d", "/a/b", api.ErrThere},
		{"/a/b", "/a/g", api.ErrThere},
		{"/a/g", "/a/b", api.ErrThere},
		// to a parent that is not there, or is a file
		{"/f", "/x/f", api.ErrNone},
		{"/f", "/a/x/f", api.ErrNone},
		{"/f", "/x/y/f", api.ErrNone},
		{"/a", "/x/a", api.ErrNone},
		{"/a", "/f/x", api.ErrFile},
		{"/a", "/f/x/y", api.ErrFile},
		{"/d", "/a/g/d", api.ErrFile},
		{"/f", "/a/g/f", api.ErrFile},
		{"/a/g", "/f/a", api.ErrFile},
	} {
		p := garden(t)
		ahead, was := written(t, p.Tree), maps.Clone(p.m)
		what := fmt.Sprintf("Move(%q, %q)", l.path, l.to)
		is(t, what, p.moves(t, l.path, l.to), l.want)
		p.isRight(t, "behind "+what)
		if l.want != api.OK {
			if written(t, p.Tree) != ahead {
				t.Errorf("%s: it was refused, and changed something", what)
			}
			continue
		}
		for s, x := range was { // all that was below it is below it still
			if s == l.path || strings.HasPrefix(s, l.path+"/") {
				now := l.to + strings.TrimPrefix(s, l.path)
				if ino, dir, e := p.Look(now); ino != x.ino || dir != x.dir || e != api.OK {
					t.Errorf("%s: %q is now %q: %d, %v, %v, want %v", what, s, now, ino, dir, e, x)
				}
				if _, _, e := p.Look(s); e != api.ErrNone {
					t.Errorf("%s: Look(%q): %v, want %v", what, s, e, api.ErrNone)
				}
			}
		}
		is(t, what+" again", p.moves(t, l.path, l.to), api.ErrNone)
		is(t, what+" and back", p.moves(t, l.to, l.path), api.OK)
		if written(t, p.Tree) != ahead {
			t.Errorf("%s and back: it is not as it was", what)
		}
		p.isRight(t, what+" and back")
	}
}

// Where a directory is moved so deep that no path names what is below it, that is there all the same, and is as it was when it is moved back.
func TestMoveTooDeep(t *testing.T) {
	p := planted(t, "/a/", "/a/b/", "/a/b/f", "/1/", "/1/2/", "/1/2/3/", "/1/2/3/4/", "/1/2/3/4/5/", "/1/2/3/4/5/6/", "/a/b/c/", "/a/b/c/d/", "/a/b/c/d/e")
	ahead := written(t, p.Tree)
	is(t, "Move", p.moves(t, "/a", "/1/2/3/4/5/6/7"), api.OK)
	p.isRight(t, "behind Move")
	deepest := "/1/2/3/4/5/6/7/b"
	if got := fmt.Sprint(p.List(deepest)); got != "[{c 11 true} {f 4 false}] ok" {
		t.Errorf("List of the deepest that a path names: %s", got)
	}
	p.looks(t, deepest+"/f")
	p.looks(t, deepest+"/c")
	is(t, "Make below what no path names", p.makes(t, deepest+"/c/x", false), api.ErrName)
	is(t, "Remove of what has names that no path names", p.removes(t, deepest, true), api.ErrNotEmpty)
	is(t, "Remove of what no path names", p.removes(t, deepest+"/f", false), api.ErrName)
	if got := fmt.Sprint(p.Inos()); got != "[1 2 3 4 5 6 7 8 9 10 11 12 13]" {
		t.Errorf("Inos: %s", got)
	}
	c := reads(t, written(t, p.Tree), p.clone().m)
	for name, x := range map[string]pair{"the tree": p, "its clone": p.clone(), "what was read": c} {
		is(t, name+": a new thing", x.makes(t, "/new", false), api.OK)
		is(t, name+": is there no more", x.removes(t, "/new", false), api.OK)
		is(t, name+": Move out of the midst", x.moves(t, deepest, "/out"), api.OK)
		x.isRight(t, name+", the midst moved out")
		is(t, name+": Move back into the midst", x.moves(t, "/out", deepest), api.OK)
		is(t, name+": Move back", x.moves(t, "/1/2/3/4/5/6/7", "/a"), api.OK)
		x.isRight(t, name+", moved back")
		if written(t, x.Tree) != ahead {
			t.Errorf("%s, moved back: it is not as it was", name)
		}
	}
}

// A chain of all things that there may be, each below the one made behind it.
func TestMoveDeepest(t *testing.T) {
	p := newPair()
	is(t, "the first", p.makes(t, "/chain", true), api.OK)
	for range api.MaxInodes - 2 {
		is(t, "one more", p.makes(t, "/next", true), api.OK)
		is(t, "the chain into it", p.moves(t, "/chain", "/next/chain"), api.OK)
		is(t, "and it is the chain", p.moves(t, "/next", "/chain"), api.OK)
	}
	is(t, "more than there may be", p.makes(t, "/more", true), api.ErrFull)
	p.isRight(t, "the chain")
	c := reads(t, written(t, p.Tree), p.m)
	c.isRight(t, "the chain that was read")
	for range api.MaxInodes - 2 {
		is(t, "what is below it out of it", c.moves(t, "/chain/chain", "/next"), api.OK)
		is(t, "it is gone", c.removes(t, "/chain", true), api.OK)
		is(t, "and the next is the chain", c.moves(t, "/next", "/chain"), api.OK)
	}
	c.isRight(t, "the end of the chain")
}

// Entries are in the order of their names' bytes, whatever the order in which they were made; numbers rise.
func TestInOrder(t *testing.T) {
	for seed := range int64(20) {
		r := rand.New(rand.NewSource(seed))
		p := planted(t, "/dir/")
		for _, up := range []string{"", "/dir"} {
			for _, i := range r.Perm(len(rising)) {
				is(t, "Make", p.makes(t, up+"/"+rising[i], i%3 == 0), api.OK)
			}
		}
		l, e := p.List("/dir")
		if e != api.OK || len(l) != len(rising) {
			t.Fatalf("List: %v, %v", l, e)
		}
		for i, s := range rising {
			if l[i].Name != s || l[i].Dir != (i%3 == 0) {
				t.Fatalf("entry %d: %q, %v, want %q, %v", i, l[i].Name, l[i].Dir, s, i%3 == 0)
			}
		}
		for _, i := range r.Perm(len(rising))[:10] {
			is(t, "Remove", p.removes(t, "/"+rising[i], i%3 == 0), api.OK)
		}
		if l := p.Inos(); !slices.IsSorted(l) || len(l) != 2+2*len(rising)-10 {
			t.Fatalf("Inos: %v", l)
		}
		p.isRight(t, "in order")
	}
}

func TestList(t *testing.T) {
	p := garden(t)
	for _, l := range []struct{ path, want string }{
		{"/", "[{a 2 true} {d 6 true} {f 3 false}] ok"},
		{"/a", "[{b 4 true} {g 5 false}] ok"},
		{"/a/b", "[{c 8 true} {h 7 false}] ok"},
		{"/d", "[] ok"},
		{"/f", "[] a file"},
		{"/a/g", "[] a file"},
		{"/f/x", "[] a file"},
		{"/x", "[] none"},
		{"/x/f", "[] none"},
		{"/a/", "[] name"},
		{"", "[] name"},
	} {
		for range 2 {
			if got := fmt.Sprint(p.List(l.path)); got != l.want {
				t.Errorf("List(%q): %s, want %s", l.path, got, l.want)
			}
		}
	}
}

func TestHas(t *testing.T) {
	p := full(t)
	for _, ino := range []int{0, -1, -2, api.MaxInodes + 1, api.MaxInodes + 2, 255, 256, 257, 1 << 16, 1<<16 + 1, 1<<32 + 1, -1 << 32, math.MaxInt, math.MinInt, math.MinInt + 1} {
		if p.Has(ino) {
			t.Errorf("Has(%d): true", ino)
		}
	}
	for ino := 1; ino <= api.MaxInodes; ino++ {
		if !p.Has(ino) {
			t.Errorf("Has(%d): false", ino)
		}
	}
}

// changes are what can be done to the garden: some changes it, some is refused.
func changes() map[string]func(t *testing.T, p pair) {
	return map[string]func(t *testing.T, p pair){
		"Make of a file":             func(t *testing.T, p pair) { p.makes(t, "/a/new", false) },
		"Make of a directory":        func(t *testing.T, p pair) { p.makes(t, "/new", true) },
		"Make in one without names":  func(t *testing.T, p pair) { p.makes(t, "/d/new", true) },
		"Remove of a file":           func(t *testing.T, p pair) { p.removes(t, "/a/b/h", false) },
		"Remove of a directory":      func(t *testing.T, p pair) { p.removes(t, "/d", true) },
		"Move of a file":             func(t *testing.T, p pair) { p.moves(t, "/f", "/d/f") },
		"Move of a directory":        func(t *testing.T, p pair) { p.moves(t, "/a", "/d/a") },
		"Move within one directory":  func(t *testing.T, p pair) { p.moves(t, "/a/b", "/a/c") },
		"a name of another kind":     func(t *testing.T, p pair) { p.removes(t, "/f", false); p.makes(t, "/f", true) },
		"the numbers of two in turn": func(t *testing.T, p pair) { p.removes(t, "/f", false); p.makes(t, "/g", false) },
		"Look, List, Inos, Has":      func(t *testing.T, p pair) { p.looks(t, "/a"); p.Inos(); p.Has(3) },
		"Make that is refused": func(t *testing.T, p pair) {
			p.makes(t, "/a", false)
			p.makes(t, "/f/x", true)
			p.makes(t, "/x/y", true)
		},
		"Remove that is refused": func(t *testing.T, p pair) {
			p.removes(t, "/a", true)
			p.removes(t, "/f", true)
			p.removes(t, "/d", false)
		},
		"Move that is refused": func(t *testing.T, p pair) { p.moves(t, "/a", "/a/x"); p.moves(t, "/a", "/d"); p.moves(t, "/f", "/x/f") },
	}
}

// A clone hears nothing of what is done with the other one.
func TestClone(t *testing.T) {
	for name, change := range changes() {
		p := garden(t)
		c := p.clone()
		d := c.clone()
		c.isRight(t, "a clone")
		change(t, p)
		p.isRight(t, name+", done with the first")
		c.isRight(t, name+": a clone, done with the first")
		for other, again := range changes() {
			e := c.clone()
			again(t, e)
			e.isRight(t, other+", done with a clone")
			c.isRight(t, name+": a clone, "+other+" done with its own clone")
		}
		change(t, c)
		c.isRight(t, name+", done with both")
		d.isRight(t, name+": the clone's clone, done with the other two")
		p.isRight(t, name+": the first, done with its clone")
	}
	p := newPair()
	c := p.clone()
	p.makes(t, "/a", true)
	p.makes(t, "/a/b", true)
	c.isRight(t, "a clone of a new one")
	c.makes(t, "/b", false)
	p.isRight(t, "the one that was new, behind Make in its clone")
	c.isRight(t, "the clone, behind Make")
	newPair().isRight(t, "a new one, behind the others")
}

// R7: of a tree that is nil, or that no call made.
func TestNone(t *testing.T) {
	var none *tree.Tree
	for name, x := range map[string]*tree.Tree{"nil": none, "no call's": {}, "a new one": new(tree.Tree)} {
		for _, s := range append(slices.Clone(noPaths), "/", "/a", "/a/b") {
			for _, dir := range []bool{false, true} {
				if ino, e := x.Make(s, dir); ino != 0 || e != api.ErrDead {
					t.Errorf("%s: Make(%q): %d, %v", name, s, ino, e)
				}
				if ino, e := x.Remove(s, dir); ino != 0 || e != api.ErrDead {
					t.Errorf("%s: Remove(%q): %d, %v", name, s, ino, e)
				}
			}
			if ino, dir, e := x.Look(s); ino != 0 || dir || e != api.ErrDead {
				t.Errorf("%s: Look(%q): %d, %v, %v", name, s, ino, dir, e)
			}
			if l, e := x.List(s); len(l) != 0 || e != api.ErrDead {
				t.Errorf("%s: List(%q): %v, %v", name, s, l, e)
			}
			for _, to := range []string{s, "/", "/a", "x"} {
				is(t, name+": Move", x.Move(s, to), api.ErrDead)
			}
		}
		for _, ino := range []int{-1, 0, 1, 2, api.MaxInodes, api.MaxInodes + 1, math.MaxInt, math.MinInt} {
			if x.Has(ino) {
				t.Errorf("%s: Has(%d)", name, ino)
			}
		}
		if l, c := x.Inos(), x.Clone(); len(l) != 0 || c != nil {
			t.Errorf("%s: Inos: %v, Clone: %v", name, l, c)
		}
		if b := written(t, x); b != "" {
			t.Errorf("%s: %q is written", name, b)
		}
		x.Write(nil)
	}
}

// R4: whoever writes into what List and Inos answered, spare room too, changes neither the tree nor another answer.
func TestWhatIsAnswered(t *testing.T) {
	p := garden(t)
	for range 3 {
		for _, s := range []string{"/", "/a", "/d"} {
			one, _ := p.List(s)
			two, _ := p.List(s)
			for i := range one[:cap(one)] {
				one[:cap(one)][i] = api.Entry{Name: "spoilt", Ino: 99, Dir: true}
			}
			_ = append(one, api.Entry{Name: "spoilt"})
			if !slices.Equal(two, p.m.list(s)) {
				t.Errorf("a write into one answer of List shows in another: %v", two)
			}
		}
		one, two := p.Inos(), p.Inos()
		for i := range one[:cap(one)] {
			one[:cap(one)][i] = 99
		}
		_ = append(one, 99)
		if !slices.Equal(two, p.m.inos()) {
			t.Errorf("a write into one answer of Inos shows in another: %v", two)
		}
		p.isRight(t, "behind writes into what was answered")
	}
}

// No later call changes what List or Inos answered.
func TestAnswersStay(t *testing.T) {
	for name, change := range changes() {
		p := garden(t)
		l, _ := p.List("/a")
		inos := p.Inos()
		was := p.m.list("/a")
		for range 3 {
			change(t, p)
		}
		if !slices.Equal(l, was) || len(inos) != 8 || !slices.IsSorted(inos) {
			t.Errorf("%s: List's answer is %v, that of Inos %v", name, l, inos)
		}
	}
}

// What is given is not kept: a path's bytes may be others later.
func TestPathsAreNotKept(t *testing.T) {
	p := newPair()
	loan := func(s string) (string, func()) {
		b := []byte(s)
		return unsafe.String(&b[0], len(b)), func() {
			for i := range b {
				b[i] = '!'
			}
		}
	}
	a, spoilA := loan("/some")
	b, spoilB := loan("/some/more")
	p.Make(a, true)
	p.Make(b, false)
	spoilA()
	spoilB()
	p.m.make("/some", true)
	p.m.make("/some/more", false)
	p.isRight(t, "behind a write into what Make was given")
	c, spoilC := loan("/some/more")
	d, spoilD := loan("/less")
	p.Move(c, d)
	spoilC()
	spoilD()
	p.m.move("/some/more", "/less")
	p.isRight(t, "behind a write into what Move was given")
}

// What is done to one tree is not to be seen in another.
func TestManyTrees(t *testing.T) {
	one, other := newPair(), newPair()
	one.makes(t, "/a", true)
	other.makes(t, "/b", false)
	one.makes(t, "/a/b", false)
	one.isRight(t, "one")
	other.isRight(t, "the other")
	newPair().isRight(t, "a third")
}

// R1: every call ends, at long paths too.
func TestLongPaths(t *testing.T) {
	p := garden(t)
	for _, s := range []string{"a", "/", "/a", "/..", "\x00", "\xff", "/a/b/"} {
		long := strings.Repeat(s, 1<<20/len(s))
		for _, path := range []string{long, "/" + long, "/a" + long, "/f/" + long} {
			is(t, "Make of a long path", p.makes(t, path, true), api.ErrName)
			is(t, "Remove of a long path", p.removes(t, path, true), api.ErrName)
			is(t, "Move of a long path", p.moves(t, path, "/x"), api.ErrName)
			is(t, "Move to a long path", p.moves(t, "/a", path), api.ErrName)
			p.looks(t, path)
		}
	}
	p.isRight(t, "behind long paths")
}

// All calls, by these paths, in each tree that some of them make out of a new one: held against the model.
func TestAllShortRows(t *testing.T) {
	paths := []string{"/", "/a", "/b", "/a/a", "/a/b", "/b/a", "/a/a/a", "b"}
	seen, edge := map[string]bool{}, []pair{newPair()}
	for round := range 5 {
		next := []pair{}
		reach := func(p pair) {
			if s := written(t, p.Tree); !seen[s] {
				seen[s] = true
				p.isRight(t, "one that is reached")
				next = append(next, p)
			}
		}
		for _, p := range edge {
			do := func(f func(p pair)) {
				c := p.clone()
				f(c)
				if written(t, c.Tree) != c.m.bytes() {
					t.Fatalf("round %d: %q is written, want %q", round, written(t, c.Tree), c.m.bytes())
				}
				reach(c)
			}
			for _, a := range paths {
				for _, dir := range []bool{false, true} {
					do(func(p pair) { p.makes(t, a, dir) })
					do(func(p pair) { p.removes(t, a, dir) })
				}
				for _, b := range paths {
					do(func(p pair) { p.moves(t, a, b) })
				}
			}
		}
		edge = next
	}
	if len(seen) < 500 {
		t.Errorf("%d trees: too few to tell anything", len(seen))
	}
}

// Long rows of any calls, held against the model; now and then the tree is cloned, or read of what it wrote, which is not to be seen.
func TestAnyLives(t *testing.T) {
	for seed := range int64(60) {
		r := rand.New(rand.NewSource(seed))
		p := newPair()
		names := rising[:3+r.Intn(8)]
		path := func() string {
			s := ""
			for range 1 + r.Intn(4) {
				s += "/" + names[r.Intn(len(names))]
			}
			return s
		}
		known := func() string { // mostly one that is there
			if r.Intn(5) == 0 {
				return path()
			}
			l := slices.Sorted(maps.Keys(p.m))
			return cmp.Or(l[r.Intn(len(l))], "/")
		}
		for range 400 {
			switch r.Intn(12) {
			case 0, 1, 2, 3:
				p.makes(t, path(), r.Intn(3) > 0)
			case 4, 5:
				_, last := cut(path())
				p.makes(t, key(known())+"/"+last, r.Intn(3) > 0)
			case 6, 7:
				p.removes(t, known(), r.Intn(2) == 0)
			case 8, 9:
				_, last := cut(path())
				p.moves(t, known(), key(known())+"/"+last)
			case 10:
				p.looks(t, path())
			case 11:
				if r.Intn(2) == 0 {
					p = reads(t, written(t, p.Tree), p.m)
				} else {
					p = p.clone()
				}
			}
		}
		p.isRight(t, "a long life")
	}
}
