// Tests of P10.4 and P10.5: what is written and read.
package tree_test

import (
	"fmt"
	"math/rand"
	"slices"
	"strings"
	"testing"

	"pinstripe/api"
	"pinstripe/tree"
	"pinstripe/wire"
)

// reads answers the tree that bytes are, and what is to be told of it; the bytes are those that it writes, and no others.
func reads(t *testing.T, b string, m model) pair {
	t.Helper()
	e := wire.NewEye([]byte(b))
	x, why := tree.Read(e)
	if why != api.OK || x == nil {
		t.Fatalf("Read(%q): %v, %v, want a tree", b, x, why)
	}
	if why := e.End(); why != api.OK {
		t.Fatalf("Read(%q): %v at the end", b, why)
	}
	if got := written(t, x); got != b {
		t.Fatalf("Read(%q) writes %q", b, got)
	}
	return pair{x, m}
}

// refused looks at what Read says of what is no tree.
func refused(t *testing.T, what, b string, want api.Errno) {
	t.Helper()
	if x, why := tree.Read(wire.NewEye([]byte(b))); x != nil || why != want {
		t.Errorf("%s: Read(%q): %v, %v, want none, %v", what, b, x, why, want)
	}
}

// grown tells whether these rows are a tree: over and over, each is put into its directory, where that is there and has no such name. In a tree none is left.
func grown(rows []told) bool {
	dirs, names, left := map[int]bool{1: true}, map[string]bool{}, len(rows)
	for range rows {
		for i, r := range rows {
			at := fmt.Sprint(r.up, "/", r.name)
			if r.ino == 0 || !dirs[r.up] || names[at] {
				continue
			}
			names[at], rows[i].ino = true, 0
			left--
			if r.dir {
				dirs[r.ino] = true
			}
		}
	}
	return left == 0
}

// told is a row as it was read.
type told struct {
	ino, up int
	name    string
	dir     bool
}

// tells answers what Read is to say of bytes, and how many of them it is to read, where it says OK.
func tells(b string) (api.Errno, int) {
	at, short, long := 0, false, false
	number := func(width int) int {
		x := 0
		for range width {
			if short = short || long || at >= len(b); short {
				return 0
			}
			x = x<<8 + int(b[at])
			at++
		}
		return x
	}
	text := func() string {
		n := number(2)
		if long = long || !short && n > 12; long {
			return ""
		}
		if short = short || at+n > len(b); short {
			return ""
		}
		at += n
		return b[at-n : at]
	}
	n := number(2)
	if short {
		return api.ErrShort, 0
	}
	if n > 127 {
		return api.ErrForm, 0
	}
	rows := []told{}
	last := 1
	for range n {
		r := told{ino: number(2), up: number(2)}
		r.name = text()
		kind := number(1)
		r.dir = kind == 1
		switch {
		case long:
			return api.ErrLong, 0
		case short:
			return api.ErrShort, 0
		case kind > 1, r.ino <= last, r.ino > 128, !may(r.name):
			return api.ErrForm, 0
		}
		rows, last = append(rows, r), r.ino
	}
	if !grown(rows) {
		return api.ErrForm, 0
	}
	return api.OK, at
}

// isTold holds what Read says of bytes against what it is to say.
func isTold(t *testing.T, b string) api.Errno {
	t.Helper()
	e := wire.NewEye([]byte(b))
	x, why := tree.Read(e)
	want, n := tells(b)
	if why != want || (x != nil) != (want == api.OK) {
		t.Fatalf("Read(%q): %v, %v, want %v", b, x, why, want)
	}
	if want == api.OK && (written(t, x) != b[:n] || e.Left() != len(b)-n || e.Fail() != api.OK) {
		t.Fatalf("Read(%q): writes %q, %d are left, want %d", b, written(t, x), e.Left(), len(b)-n)
	}
	return want
}

func TestWrite(t *testing.T) {
	p := garden(t)
	want := "\x00\x07" +
		"\x00\x02\x00\x01\x00\x01a\x01" +
		"\x00\x03\x00\x01\x00\x01f\x00" +
		"\x00\x04\x00\x02\x00\x01b\x01" +
		"\x00\x05\x00\x02\x00\x01g\x00" +
		"\x00\x06\x00\x01\x00\x01d\x01" +
		"\x00\x07\x00\x04\x00\x01h\x00" +
		"\x00\x08\x00\x04\x00\x01c\x01"
	if got := written(t, p.Tree); got != want {
		t.Errorf("of the garden %q is written, want %q", got, want)
	}
	// numbers rise, whatever the order of names, or of things and their directories
	p = planted(t, "/z/", "/x/", "/y")
	p.moves(t, "/z", "/x/a")
	p.moves(t, "/y", "/x/a/y")
	want = "\x00\x03" + "\x00\x02\x00\x03\x00\x01a\x01" + "\x00\x03\x00\x01\x00\x01x\x01" + "\x00\x04\x00\x02\x00\x01y\x00"
	if got := written(t, p.Tree); got != want {
		t.Errorf("behind Move %q is written, want %q", got, want)
	}
	// a name has as many bytes as it has, and they are as they are
	for _, s := range append(slices.Clone(rising), "ééééé", "\xff\xfe\xfd", "\n") {
		p := planted(t, "/"+s+"/")
		if got, want := written(t, p.Tree), "\x00\x01\x00\x02\x00\x01\x00"+string(rune(len(s)))+s+"\x01"; got != want {
			t.Errorf("%q is written, want %q", got, want)
		}
	}
}

// Write writes behind what the pen has, and changes nothing.
func TestWriteIntoPens(t *testing.T) {
	p := garden(t)
	pen := &wire.Pen{}
	pen.Num(7, 1)
	p.Write(pen)
	pen.Text("end")
	p.Write(pen)
	b, e := pen.Bytes()
	if want := "\x07" + p.m.bytes() + "\x00\x03end" + p.m.bytes(); e != api.OK || string(b) != want {
		t.Errorf("%q, %v, want %q", b, e, want)
	}
	failed := &wire.Pen{}
	failed.Num(-1, 1)
	p.Write(failed)
	if b, e := failed.Bytes(); len(b) != 0 || e != api.ErrArg {
		t.Errorf("a pen that failed: %q, %v", b, e)
	}
	narrow := &wire.Pen{}
	narrow.Raw(make([]byte, api.MaxBody-10))
	p.Write(narrow)
	if b, e := narrow.Bytes(); len(b) != 0 || e != api.ErrLong {
		t.Errorf("a pen without room: %d bytes, %v", len(b), e)
	}
	p.Write(nil)
	p.isRight(t, "behind Write")
}

// P10.5: what was written is read, and goes on as it would have.
func TestReadOfWrite(t *testing.T) {
	for name, p := range map[string]pair{"a new one": newPair(), "the garden": garden(t), "a full one": full(t), "long names": planted(t, "/123456789012/", "/123456789012/\xff\xfe")} {
		reads(t, written(t, p.Tree), p.m).isRight(t, name)
	}
	for name, change := range changes() {
		p := garden(t)
		change(t, p)
		c := reads(t, written(t, p.Tree), p.clone().m)
		c.isRight(t, name+", then read")
		for other, again := range changes() {
			d := reads(t, written(t, p.Tree), p.clone().m)
			again(t, d)
			d.isRight(t, name+", then read, then "+other)
		}
	}
}

// Rows may tell of a thing ahead of its directory, and of numbers with others between.
func TestReadInAnyOrder(t *testing.T) {
	p := reads(t, form(row(2, 128, "low", true), row(77, 2, "f", false), row(128, 1, "high", true)), model{
		"": {1, true}, "/high": {128, true}, "/high/low": {2, true}, "/high/low/f": {77, false},
	})
	p.isRight(t, "numbers that are apart")
	for want := 3; want < 10; want++ {
		path := fmt.Sprint("/high/", want)
		if ino, e := p.Make(path, false); ino != want || e != api.OK {
			t.Errorf("Make: %d, %v, want %d", ino, e, want)
		}
		p.m.make(path, false)
	}
	p.isRight(t, "behind Make")
	p = reads(t, form(row(2, 3, "a", true), row(3, 4, "a", true), row(4, 5, "a", true), row(5, 1, "a", true)), model{
		"": {1, true}, "/a": {5, true}, "/a/a": {4, true}, "/a/a/a": {3, true}, "/a/a/a/a": {2, true},
	})
	p.isRight(t, "each in the next one")
}

// The eye stands behind the tree: what is left is another's.
func TestReadLeavesWhatFollows(t *testing.T) {
	p := garden(t)
	b := "\x09" + p.m.bytes() + "\x00\x00" + p.m.bytes() + "rest"
	e := wire.NewEye([]byte(b))
	if x := e.Num(1); x != 9 {
		t.Fatalf("the first byte: %d", x)
	}
	for i, m := range []model{p.m, newModel(), p.m} {
		x, why := tree.Read(e)
		if why != api.OK {
			t.Fatalf("tree %d: %v", i, why)
		}
		pair{x, m}.isRight(t, fmt.Sprint("tree ", i))
	}
	if e.Left() != 4 || e.Fail() != api.OK || e.Num(4) != 0x72657374 {
		t.Errorf("behind three trees: %d left, %v", e.Left(), e.Fail())
	}
}

// Every beginning of a tree's bytes that is shorter is ErrShort.
func TestShorter(t *testing.T) {
	for _, p := range []pair{newPair(), garden(t), full(t), planted(t, "/123456789012/")} {
		b := written(t, p.Tree)
		for n := range len(b) {
			refused(t, "a beginning", b[:n], api.ErrShort)
		}
		reads(t, b, p.m).isRight(t, "all of it")
	}
}

// An eye that is none, or that failed ahead, says so.
func TestReadOfNoEye(t *testing.T) {
	for name, l := range map[string]struct {
		e    *wire.Eye
		want api.Errno
	}{
		"nil":         {nil, api.ErrDead},
		"no call's":   {&wire.Eye{}, api.ErrDead},
		"no bytes":    {wire.NewEye(nil), api.ErrShort},
		"one byte":    {wire.NewEye([]byte{0}), api.ErrShort},
		"failed arg":  {failed(func(e *wire.Eye) { e.Num(0) }), api.ErrArg},
		"failed long": {failed(func(e *wire.Eye) { e.Text(0) }), api.ErrLong},
		"failed form": {failed(func(e *wire.Eye) { e.Num(1); e.Bool() }), api.ErrForm},
	} {
		for range 2 {
			if x, why := tree.Read(l.e); x != nil || why != l.want {
				t.Errorf("%s: %v, %v, want none, %v", name, x, why, l.want)
			}
		}
	}
}

// failed answers an eye that would have a tree to read, but failed.
func failed(f func(e *wire.Eye)) *wire.Eye {
	e := wire.NewEye([]byte(form(row(2, 1, "a", true))))
	e.Num(1) // it stands at 1 0 2
	f(e)
	return e
}

// many answers so many rows of files.
func many(n int) []string {
	l := []string{}
	for i := range n {
		l = append(l, row(i+2, 1, fmt.Sprint("n", i), false))
	}
	return l
}

// Each thing that may not be, one by one.
func TestForm(t *testing.T) {
	a, f := row(2, 1, "a", true), row(2, 1, "f", false)
	for _, l := range []struct {
		what string
		rows []string
	}{
		{"MaxInodes things beside the root", many(128)},
		{"more", many(129)},
		{"as many as can be told", many(65535)},
		{"a number twice", []string{a, row(2, 1, "b", true)}},
		{"numbers that fall", []string{row(3, 1, "b", true), a}},
		{"numbers that fall at the end", []string{a, row(4, 1, "b", false), row(3, 1, "c", false)}},
		{"number 0", []string{row(0, 1, "a", true)}},
		{"number 1", []string{row(1, 1, "a", true)}},
		{"number 1, behind another", []string{a, row(1, 1, "b", true)}},
		{"a number above MaxInodes", []string{row(129, 1, "a", true)}},
		{"a number of two bytes", []string{row(258, 1, "a", true)}},
		{"the greatest number", []string{row(65535, 1, "a", true)}},
		{"a number above MaxInodes, behind another", []string{a, row(129, 2, "a", true)}},
		{"a name of no bytes", []string{row(2, 1, "", true)}},
		{"a name .", []string{row(2, 1, ".", true)}},
		{"a name ..", []string{row(2, 1, "..", false)}},
		{"a name with a stroke", []string{row(2, 1, "a/b", true)}},
		{"a name that is a stroke", []string{row(2, 1, "/", true)}},
		{"a name with a 0", []string{row(2, 1, "a\x00", true)}},
		{"a name that is a 0", []string{row(2, 1, "\x00", false)}},
		{"a name that may not be, at the end", []string{a, row(3, 2, "..", false)}},
		{"a directory 0", []string{row(2, 0, "a", true)}},
		{"a directory that there is not", []string{row(2, 3, "a", true)}},
		{"a directory that there is not, between others", []string{a, row(4, 3, "b", true), row(5, 4, "c", true)}},
		{"a directory that there is not, the greatest", []string{row(2, 128, "a", true)}},
		{"a directory above MaxInodes", []string{row(2, 129, "a", true)}},
		{"a directory of two bytes", []string{row(2, 257, "a", true)}},
		{"the greatest directory", []string{a, row(3, 65535, "a", true)}},
		{"a directory that is a file", []string{f, row(3, 2, "b", false)}},
		{"a directory that is a file, which comes behind", []string{row(2, 3, "b", true), row(3, 1, "f", false)}},
		{"a file in itself", []string{row(2, 2, "f", false)}},
		{"a name twice in the root", []string{a, row(3, 1, "a", true)}},
		{"a name twice, of a file and a directory", []string{a, row(3, 1, "a", false)}},
		{"a name twice in a directory", []string{a, row(3, 2, "x", false), row(4, 2, "y", false), row(5, 2, "x", false)}},
		{"a name twice in a directory that comes behind", []string{row(2, 4, "x", false), row(3, 4, "x", false), row(4, 1, "a", true)}},
		{"a directory in itself", []string{row(2, 2, "a", true)}},
		{"a directory in itself, beside another", []string{a, row(3, 3, "b", true)}},
		{"two, each in the other", []string{row(2, 3, "a", true), row(3, 2, "b", true)}},
		{"three in a ring", []string{row(2, 4, "a", true), row(3, 2, "a", true), row(4, 3, "a", true)}},
		{"a file below a ring", []string{row(2, 3, "a", true), row(3, 2, "b", true), row(4, 2, "f", false)}},
		{"a ring beside what is well", []string{a, row(3, 2, "f", false), row(4, 5, "a", true), row(5, 4, "b", true)}},
	} {
		refused(t, l.what, form(l.rows...), api.ErrForm)
		isTold(t, form(l.rows...))
	}
	for _, kind := range []string{"\x02", "\x03", "\x80", "\xff"} {
		refused(t, "a bool that is none", form(a[:len(a)-1]+kind), api.ErrForm)
		refused(t, "a bool that is none, at the end", form(a, strings.TrimSuffix(row(3, 1, "b", false), "\x00")+kind), api.ErrForm)
	}
}

// What may be, though it is as near as can be to what may not.
func TestNearlyForm(t *testing.T) {
	a := row(2, 1, "a", true)
	for _, rows := range [][]string{
		{},
		many(127),
		{a, row(128, 1, "b", true)},
		{row(128, 1, "a", true)},
		{row(2, 1, "123456789012", false)},
		{row(2, 1, "...", false)},
		{row(2, 1, ". ", true)},
		{a, row(3, 2, "a", true), row(4, 3, "a", false)}, // a name twice, in two directories
		{row(2, 1, "a", false), row(3, 1, "A", false), row(4, 1, "aa", false)},
		{row(2, 3, "x", false), row(3, 4, "x", true), row(4, 1, "x", true)},
	} {
		if e := isTold(t, form(rows...)); e != api.OK {
			t.Errorf("%q: %v", rows, e)
		}
	}
}

// Of two that may not be, the one that a reader meets first: the count at once, rows one by one, all else behind them.
func TestFirstOfTwo(t *testing.T) {
	a, dots, high := row(2, 1, "a", true), row(2, 1, "..", true), row(129, 1, "a", true)
	long := num(2) + num(1) + num(13) + "1234567890123\x00"
	third := num(3) + num(1) + num(13) + "1234567890123\x00"
	lost := row(2, 77, "a", true)
	file := row(2, 1, "f", false)
	ring := row(2, 2, "a", true)
	for _, l := range []struct {
		what, b string
		want    api.Errno
	}{
		// the count, ahead of rows that are not there, or may not be
		{"too many, no rows", num(128), api.ErrForm},
		{"far too many, no rows", num(65535), api.ErrForm},
		{"too many, and a long name", num(128) + long, api.ErrForm},
		{"too many, and a row that is cut", num(200) + a[:3], api.ErrForm},
		{"the greatest count that may be, no rows", num(127), api.ErrShort},
		{"the greatest count that may be, and a long name", num(127) + long, api.ErrLong},
		// a row, ahead of the next one
		{"a name that may not be, then no row", num(2) + dots, api.ErrForm},
		{"a name that may not be, then a long one", num(2) + dots + third, api.ErrForm},
		{"a number that may not be, then no row", num(2) + high, api.ErrForm},
		{"a number that may not be, then a long name", num(2) + high + third, api.ErrForm},
		{"numbers that do not rise, then no row", num(3) + a + a, api.ErrForm},
		{"numbers that do not rise, then a long name", num(3) + a + a + third, api.ErrForm},
		{"a long name, then a name that may not be", num(2) + long + row(3, 1, "..", true), api.ErrLong},
		{"a long name, then a number that may not be", num(2) + long + high, api.ErrLong},
		{"a long name, then no row", num(2) + long, api.ErrLong},
		{"a row, then a long name, then no row", num(3) + a + third, api.ErrLong},
		// what the eye says of a row, ahead of what the row says
		{"a number that may not be, in a row that is cut", num(1) + high[:len(high)-1], api.ErrShort},
		{"a name that may not be, in a row that is cut", num(1) + dots[:len(dots)-1], api.ErrShort},
		{"a number that may not be, and a long name", num(1) + num(129) + num(1) + num(13) + "1234567890123\x00", api.ErrLong},
		{"a long name in a row that is cut", num(1) + num(2) + num(1) + num(13) + "1", api.ErrLong},
		// what is of the whole, behind all rows
		{"a directory that there is not, then no row", num(2) + lost, api.ErrShort},
		{"a directory that there is not, then a long name", num(2) + lost + third, api.ErrLong},
		{"a directory above MaxInodes, then no row", num(2) + row(2, 65535, "a", true), api.ErrShort},
		{"a directory that is a file, then no row", num(3) + file + row(3, 2, "a", true), api.ErrShort},
		{"a directory in itself, then no row", num(2) + ring, api.ErrShort},
		{"a directory in itself, then a long name", num(2) + ring + third, api.ErrLong},
		{"a name twice, then no row", num(3) + a + row(3, 1, "a", true), api.ErrShort},
		// bytes that are left are not looked at
		{"a directory that there is not, bytes left", num(1) + lost + "\x00", api.ErrForm},
		{"a ring, bytes left", num(1) + ring + long, api.ErrForm},
	} {
		refused(t, l.what, l.b, l.want)
		isTold(t, l.b)
	}
}

// What Read is given is not changed, and not kept.
func TestWhatReadIsGiven(t *testing.T) {
	p := garden(t)
	b := []byte(p.m.bytes())
	whole := append(b, "spare"...)
	was := string(whole)
	x, why := tree.Read(wire.NewEye(whole[:len(b)]))
	if why != api.OK || string(whole) != was {
		t.Fatalf("Read: %v, and what it was given is %q", why, whole)
	}
	for i := range whole {
		whole[i] = '!'
	}
	pair{x, p.m}.isRight(t, "behind a write into what Read was given")
}

// Each byte of some trees made each other one: held against what is to be told.
func TestEachByte(t *testing.T) {
	for _, s := range []string{
		form(),
		form(row(2, 1, "a", true)),
		form(row(2, 1, "a", true), row(3, 2, "b", false), row(4, 1, "c", true)),
		form(row(2, 3, "x", false), row(3, 1, "y", true), row(4, 3, "xy", true)),
		form(row(2, 1, "123456789012", true), row(128, 2, "...", false)),
	} {
		for i := range len(s) {
			for c := range 256 {
				b := []byte(s + "\x00\x01\x00")
				b[i] = byte(c)
				isTold(t, string(b))
				isTold(t, string(b[:len(s)]))
			}
		}
	}
}

// Any rows of few numbers and names, some cut or with a byte changed: held against what is to be told.
func TestAnyRows(t *testing.T) {
	r := rand.New(rand.NewSource(10))
	count := map[api.Errno]int{}
	for range 60000 {
		n := r.Intn(6)
		rows, ino := []string{}, 1
		for range n {
			ino += 1 + r.Intn(8)/7
			up := 1 + r.Intn(n+1)
			if r.Intn(30) == 0 {
				ino, up = r.Intn(8), r.Intn(200)
			}
			s := []string{"a", "b", "c", "d", "e", "ab"}[r.Intn(6)]
			if r.Intn(50) == 0 {
				s = []string{"", ".", "..", "/", "a\x00"}[r.Intn(5)]
			}
			rows = append(rows, row(ino, up, s, r.Intn(4) > 0))
		}
		b := []byte(form(rows...))
		switch r.Intn(8) {
		case 0:
			b = b[:r.Intn(len(b)+1)]
		case 1:
			b[r.Intn(len(b))] = byte(r.Intn(256))
		case 2:
			b = append(b, "more"...)
		}
		count[isTold(t, string(b))]++
	}
	for _, e := range []api.Errno{api.OK, api.ErrShort, api.ErrLong, api.ErrForm} {
		if count[e] < 100 {
			t.Errorf("%d of %v: too few to tell anything", count[e], e)
		}
	}
}
