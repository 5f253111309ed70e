// Tests of pointers, and of what is written and read.
package blocks_test

import (
	"fmt"
	"math"
	"math/rand"
	"strings"
	"testing"

	"pinstripe/api"
	"pinstripe/blocks"
	"pinstripe/wire"
)

// num answers a number in width bytes.
func num(x, width int) string {
	b := ""
	for range width {
		b = string([]byte{byte(x % 256)}) + b
		x /= 256
	}
	return b
}

// form answers what is written of a pointer.
func form(x api.Ptr) string {
	return num(x.Client, 1) + num(x.Life, 3) + num(x.Number, 4) + num(x.At, 2) + num(x.Len, 1)
}

// forms answers what is written of a map of that Size and these pointers.
func forms(size int, l ...api.Ptr) string {
	b := num(size, 2)
	for _, x := range l {
		b += form(x)
	}
	return b
}

// may tells whether a pointer may be: the chapter told anew.
func may(x api.Ptr) bool {
	if x.Client == 0 && x.Life == 0 && x.Number == 0 && x.At == 0 && x.Len == 0 {
		return true
	}
	for _, l := range [][3]int{{x.Client, 0, 4}, {x.Life, 0, 1048576}, {x.Number, 0, 1073741824}, {x.At, 0, 5999}, {x.Len, 1, 64}} {
		if l[0] < l[1] || l[0] > l[2] {
			return false
		}
	}
	return x.At+x.Len <= 6000
}

// full answers a pointer of these numbers.
func full(client, life, number, at, long int) api.Ptr {
	return api.Ptr{Stripe: api.Stripe{Client: client, Life: life, Number: number}, At: at, Len: long}
}

// usual answers pointers that may be: each field at its least and at its most.
func usual() []api.Ptr {
	return []api.Ptr{
		{},
		full(0, 0, 0, 0, 1), full(0, 0, 0, 0, 64), full(4, 0, 0, 0, 1), full(0, 1048576, 0, 0, 1), full(0, 0, 1073741824, 0, 1),
		full(0, 0, 0, 5999, 1), full(0, 0, 0, 5936, 64), full(0, 0, 0, 5998, 2), full(0, 0, 0, 5990, 10),
		full(4, 1048576, 1073741824, 5936, 64), full(1, 2, 3, 4, 5), full(3, 1048575, 1073741823, 5935, 64),
	}
}

// strange answers pointers that may not be: one field past its least or its most.
func strange() []api.Ptr {
	return []api.Ptr{
		full(-1, 0, 0, 0, 1), full(5, 0, 0, 0, 1), full(255, 0, 0, 0, 1), full(256, 0, 0, 0, 1),
		full(0, -1, 0, 0, 1), full(0, 1048577, 0, 0, 1), full(0, 16777215, 0, 0, 1), full(0, 16777216, 0, 0, 1),
		full(0, 0, -1, 0, 1), full(0, 0, 1073741825, 0, 1), full(0, 0, 4294967295, 0, 1), full(0, 0, 4294967296, 0, 1),
		full(0, 0, 0, -1, 1), full(0, 0, 0, -1, 2), full(0, 0, 0, 6000, 1), full(0, 0, 0, 65535, 1), full(0, 0, 0, 65536, 1),
		full(0, 0, 0, 0, -1), full(0, 0, 0, 0, 65), full(0, 0, 0, 0, 255), full(0, 0, 0, 0, 256),
		full(0, 0, 0, 5999, 2), full(0, 0, 0, 5937, 64), full(0, 0, 0, 5991, 10), full(0, 0, 0, 6000, 0),
		full(1, 0, 0, 0, 0), full(0, 1, 0, 0, 0), full(0, 0, 1, 0, 0), full(0, 0, 0, 1, 0), full(4, 1048576, 1073741824, 5999, 0), // a Len of 0, but not the zero pointer
		full(math.MinInt, 0, 0, 0, 1), full(math.MaxInt, 0, 0, 0, 1), full(0, math.MaxInt, 0, 0, 1), full(0, 0, math.MinInt, 0, 1),
		full(0, 0, 0, math.MaxInt, 1), full(0, 0, 0, math.MinInt, 1), full(0, 0, 0, math.MaxInt, 64), full(0, 0, 0, 0, math.MaxInt), full(0, 0, 0, 1, math.MaxInt),
		full(0, 0, 0, math.MinInt, math.MinInt), full(0, 0, 0, math.MinInt, math.MaxInt), full(0, 0, 0, 0, math.MinInt),
	}
}

// fits tells whether a pointer's numbers go into the bytes that they are written in.
func fits(x api.Ptr) bool {
	for _, l := range [][2]int{{x.Client, 1 << 8}, {x.Life, 1 << 24}, {x.Number, 1 << 32}, {x.At, 1 << 16}, {x.Len, 1 << 8}} {
		if l[0] < 0 || l[0] >= l[1] {
			return false
		}
	}
	return true
}

func TestMay(t *testing.T) {
	for _, x := range usual() {
		if !blocks.May(x) || !may(x) {
			t.Errorf("May(%v): %v", x, blocks.May(x))
		}
	}
	for _, x := range strange() {
		if blocks.May(x) || may(x) {
			t.Errorf("May(%v): %v", x, blocks.May(x))
		}
	}
	for at := 5900; at < 6010; at++ {
		for long := -1; long < 70; long++ {
			if x := ptr(7, at, long); blocks.May(x) != may(x) {
				t.Errorf("May(%v): %v", x, blocks.May(x))
			}
		}
	}
}

// wroteOf answers what PutPtr writes.
func wroteOf(x api.Ptr) (string, api.Errno) {
	pen := &wire.Pen{}
	blocks.PutPtr(pen, x)
	b, why := pen.Bytes()
	return string(b), why
}

func TestPutPtr(t *testing.T) {
	if b, why := wroteOf(full(4, 0x10203, 0x4050607, 0x1708, 9)); b != "\x04\x01\x02\x03\x04\x05\x06\x07\x17\x08\x09" || why != api.OK {
		t.Errorf("%q, %v", b, why)
	}
	for _, x := range append(usual(), strange()...) {
		b, why := wroteOf(x)
		if !fits(x) {
			if b != "" || why != api.ErrArg {
				t.Errorf("PutPtr(%v): %q, %v, want none, %v", x, b, why, api.ErrArg)
			}
			continue
		}
		if b != form(x) || len(b) != 11 || why != api.OK {
			t.Errorf("PutPtr(%v): %q, %v, want %q", x, b, why, form(x))
		}
	}
}

// PutPtr writes behind what the pen has; one that has failed, or has no room, says so; one that is nil is none.
func TestPutPtrIntoPens(t *testing.T) {
	pen := &wire.Pen{}
	pen.Text("ab")
	blocks.PutPtr(pen, p)
	blocks.PutPtr(pen, r)
	pen.Bool(true)
	if b, why := pen.Bytes(); string(b) != "\x00\x02ab"+form(p)+form(r)+"\x01" || why != api.OK {
		t.Errorf("%q, %v", b, why)
	}
	failed := &wire.Pen{}
	failed.Num(-1, 1)
	blocks.PutPtr(failed, p)
	if b, why := failed.Bytes(); len(b) != 0 || why != api.ErrArg {
		t.Errorf("a pen that failed: %q, %v", b, why)
	}
	for room := range 12 {
		narrow := &wire.Pen{}
		narrow.Raw(make([]byte, api.MaxBody-1000))
		narrow.Raw(make([]byte, 996-room))
		blocks.PutPtr(narrow, p)
		if _, why := narrow.Bytes(); (why == api.OK) != (room == 11) || why != api.OK && why != api.ErrLong {
			t.Errorf("a pen with room for %d: %v", room, why)
		}
	}
	blocks.PutPtr(nil, p)
}

// What fits is read as it was written, whether it may be or not.
func TestGetPtr(t *testing.T) {
	for _, x := range append(usual(), strange()...) {
		if !fits(x) {
			continue
		}
		e := wire.NewEye([]byte("\x07" + form(x) + form(p) + "z"))
		e.Num(1)
		if got, next := blocks.GetPtr(e), blocks.GetPtr(e); got != x || next != p || e.Left() != 1 || e.Fail() != api.OK {
			t.Errorf("GetPtr of %v: %v, then %v, %d left, %v", x, got, next, e.Left(), e.Fail())
		}
	}
	all := strings.Repeat("\xff", 11)
	if got := blocks.GetPtr(wire.NewEye([]byte(all))); got != full(255, 1<<24-1, 1<<32-1, 65535, 255) {
		t.Errorf("GetPtr of the greatest numbers: %v", got)
	}
}

// Of an eye that fails the pointer is zero: no half of one comes out.
func TestGetPtrOfNoEye(t *testing.T) {
	b := form(full(4, 0x10203, 0x4050607, 0x1708, 9))
	for n := range len(b) {
		e := wire.NewEye([]byte(b[:n]))
		if got := blocks.GetPtr(e); got != zero || e.Fail() != api.ErrShort {
			t.Errorf("GetPtr of %d bytes: %v, %v", n, got, e.Fail())
		}
	}
	failed := wire.NewEye([]byte(b))
	failed.Num(0)
	if got := blocks.GetPtr(failed); got != zero || failed.Fail() != api.ErrArg || failed.Left() != len(b) {
		t.Errorf("GetPtr of an eye that failed: %v, %v, %d left", got, failed.Fail(), failed.Left())
	}
	for name, e := range map[string]*wire.Eye{"nil": nil, "no call's": {}} {
		if got := blocks.GetPtr(e); got != zero || e.Fail() != api.ErrDead {
			t.Errorf("GetPtr of an eye that is %s: %v, %v", name, got, e.Fail())
		}
	}
}

func TestWrite(t *testing.T) {
	for _, l := range []struct {
		x    pair
		want string
	}{
		{newPair(), "\x00\x00"},
		{made(t, cut(1)), "\x00\x01" + strings.Repeat("\x00", 11)},
		{made(t, cut(64)), "\x00\x40" + strings.Repeat("\x00", 11)},
		{made(t, cut(65)), "\x00\x41" + strings.Repeat("\x00", 22)},
		{made(t, put(0, 10, r)), "\x00\x0a" + "\x04\x00\x00\x03\x00\x00\x00\x00\x00\x4d\x0a"},
		{some(t), "\x01\x2c" + form(p) + form(q) + form(zero) + form(p) + form(r)},
		{made(t, cut(4096)), "\x10\x00" + strings.Repeat("\x00", 704)},
	} {
		if got := written(t, l.x.Map); got != l.want {
			t.Errorf("%q is written, want %q", got, l.want)
		}
	}
}

// Write writes behind what the pen has, and changes nothing.
func TestWriteIntoPens(t *testing.T) {
	x := some(t)
	b := x.m.bytes()
	pen := &wire.Pen{}
	pen.Num(7, 1)
	x.Write(pen)
	pen.Text("end")
	x.Write(pen)
	if got, why := pen.Bytes(); string(got) != "\x07"+b+"\x00\x03end"+b || why != api.OK {
		t.Errorf("%q, %v", got, why)
	}
	failed := &wire.Pen{}
	failed.Num(0, 9)
	x.Write(failed)
	if got, why := failed.Bytes(); len(got) != 0 || why != api.ErrArg {
		t.Errorf("a pen that failed: %q, %v", got, why)
	}
	narrow := &wire.Pen{}
	narrow.Raw(make([]byte, api.MaxBody-10))
	x.Write(narrow)
	if got, why := narrow.Bytes(); len(got) != 0 || why != api.ErrLong {
		t.Errorf("a pen without room: %d bytes, %v", len(got), why)
	}
	x.Write(nil)
	x.isRight(t, "behind Write")
}

// reads answers the map that bytes are, beside what is to be told of it.
func reads(t *testing.T, b string, m *model) pair {
	t.Helper()
	e := wire.NewEye([]byte(b))
	x, why := blocks.Read(e)
	if why != api.OK || x == nil || e.End() != api.OK {
		t.Fatalf("Read(%q): %v, %v, %v at the end", b, x, why, e.End())
	}
	return pair{x, m}
}

// P11.3: what was written is read, and goes on as it would have.
func TestReadOfWrite(t *testing.T) {
	ends := newPair()
	for block, x := range usual() {
		ends.applies(t, put(block, 64*block+1, x))
	}
	for name, x := range map[string]pair{"a new one": newPair(), "some": some(t), "all blocks": wholeFile(t), "noughts": made(t, cut(4096)), "each field at its ends": ends} {
		reads(t, written(t, x.Map), x.clone().m).isRight(t, name)
		for other, d := range kinds() {
			c := reads(t, written(t, x.Map), x.clone().m)
			c.applies(t, d)
			again := reads(t, written(t, c.Map), c.clone().m)
			again.isRight(t, name+", "+other+", read again")
			again.clone().applies(t, d)
			c.isRight(t, name+", "+other+", behind another's")
		}
	}
}

// The eye stands behind the map: what is left is another's.
func TestReadLeavesWhatFollows(t *testing.T) {
	x := some(t)
	e := wire.NewEye([]byte("\x09" + x.m.bytes() + "\x00\x00" + x.m.bytes() + "rest"))
	if got := e.Num(1); got != 9 {
		t.Fatalf("the first byte: %d", got)
	}
	none := newModel()
	for i, m := range []*model{x.m, &none, x.m} {
		got, why := blocks.Read(e)
		if why != api.OK {
			t.Fatalf("map %d: %v", i, why)
		}
		pair{got, m}.isRight(t, fmt.Sprint("map ", i))
	}
	if e.Left() != 4 || e.Fail() != api.OK || e.Num(4) != 0x72657374 {
		t.Errorf("behind three maps: %d left, %v", e.Left(), e.Fail())
	}
}

// refused looks at what Read says of what is no map.
func refused(t *testing.T, what, b string, want api.Errno) {
	t.Helper()
	if x, why := blocks.Read(wire.NewEye([]byte(b))); x != nil || why != want {
		t.Errorf("%s: Read(%q): %v, %v, want none, %v", what, b, x, why, want)
	}
}

// Every beginning of a map's bytes that is shorter is ErrShort.
func TestShorter(t *testing.T) {
	for _, x := range []pair{newPair(), some(t), wholeFile(t), made(t, cut(1)), made(t, cut(4096))} {
		b := written(t, x.Map)
		for n := range len(b) {
			refused(t, "a beginning", b[:n], api.ErrShort)
		}
		reads(t, b, x.m).isRight(t, "all of it")
	}
}

func TestReadOfNoEye(t *testing.T) {
	failed := func(f func(e *wire.Eye)) *wire.Eye {
		e := wire.NewEye([]byte("\x02" + forms(10, p)))
		f(e)
		return e
	}
	for name, l := range map[string]struct {
		e    *wire.Eye
		want api.Errno
	}{
		"nil":         {nil, api.ErrDead},
		"no call's":   {&wire.Eye{}, api.ErrDead},
		"no bytes":    {wire.NewEye(nil), api.ErrShort},
		"one byte":    {wire.NewEye([]byte{0}), api.ErrShort},
		"failed arg":  {failed(func(e *wire.Eye) { e.Num(0) }), api.ErrArg},
		"failed long": {failed(func(e *wire.Eye) { e.Raw(0) }), api.ErrLong},
		"failed form": {failed(func(e *wire.Eye) { e.Bool() }), api.ErrForm},
	} {
		for range 2 {
			if x, why := blocks.Read(l.e); x != nil || why != l.want {
				t.Errorf("%s: %v, %v, want none, %v", name, x, why, l.want)
			}
		}
	}
}

// A Size that is too great is ErrForm at once, whatever follows.
func TestSizeTooGreat(t *testing.T) {
	for _, size := range []int{4097, 4098, 4160, 8192, 65535} {
		refused(t, "nothing follows", num(size, 2), api.ErrForm)
		refused(t, "noughts follow", num(size, 2)+strings.Repeat("\x00", 11*1024), api.ErrForm)
	}
	refused(t, "the greatest Size that may be", num(4096, 2), api.ErrShort)
}

// A pointer that may not be is ErrForm, in each block.
func TestForm(t *testing.T) {
	for _, x := range strange() {
		if !fits(x) {
			continue
		}
		refused(t, "alone", forms(1, x), api.ErrForm)
		refused(t, "the first", forms(192, x, p, q), api.ErrForm)
		refused(t, "the second", forms(192, p, x, q), api.ErrForm)
		refused(t, "the last", forms(192, p, q, x), api.ErrForm)
		refused(t, "the last, behind noughts", forms(192, zero, zero, x), api.ErrForm)
		refused(t, "bytes are left", forms(64, x, p), api.ErrForm)
	}
	for _, x := range usual() {
		m := newModel()
		m.size = 192
		m.point(0, p)
		m.point(1, x)
		m.point(2, x)
		reads(t, forms(192, p, x, x), &m).isRight(t, "what may be")
	}
}

// Of two that may not be, the one that a reader meets first.
func TestFirstOfTwo(t *testing.T) {
	no, cutOff := form(full(5, 0, 0, 0, 1)), form(p)[:10]
	for _, l := range []struct {
		what, b string
		want    api.Errno
	}{
		{"a pointer that may not be, then none", num(65, 2) + no, api.ErrForm},
		{"a pointer that may not be, then one that is cut", num(65, 2) + no + cutOff, api.ErrForm},
		{"a pointer that may not be, then another", num(65, 2) + no + no, api.ErrForm},
		{"a pointer, then one that is cut", num(129, 2) + form(p) + cutOff, api.ErrShort},
		{"a pointer that may not be, and is cut", num(1, 2) + no[:10], api.ErrShort},
		{"a Size that is too great, then a pointer that may not be", num(4097, 2) + no, api.ErrForm},
		{"a Size that is cut", "\xff", api.ErrShort},
	} {
		refused(t, l.what, l.b, l.want)
	}
}

// What Read is given is not changed, and not kept.
func TestWhatReadIsGiven(t *testing.T) {
	m := some(t).m
	b := []byte(m.bytes())
	whole := append(b, "spare"...)
	was := string(whole)
	x, why := blocks.Read(wire.NewEye(whole[:len(b)]))
	if why != api.OK || string(whole) != was {
		t.Fatalf("Read: %v, and what it was given is %q", why, whole)
	}
	for i := range whole {
		whole[i] = '!'
	}
	pair{x, m}.isRight(t, "behind a write into what Read was given")
}

// tells answers what Read is to say of bytes, and how many of them are left, where it says OK.
func tells(b string) (api.Errno, int) {
	next := func(width int) int {
		x := 0
		for i := range width {
			x = x*256 + int(b[i])
		}
		b = b[width:]
		return x
	}
	if len(b) < 2 {
		return api.ErrShort, 0
	}
	size := next(2)
	if size > 4096 {
		return api.ErrForm, 0
	}
	for had := 0; had < size; had += 64 {
		if len(b) < 11 {
			return api.ErrShort, 0
		}
		if !may(full(next(1), next(3), next(4), next(2), next(1))) {
			return api.ErrForm, 0
		}
	}
	return api.OK, len(b)
}

// isTold holds what Read says of bytes against what it is to say.
func isTold(t *testing.T, b string) api.Errno {
	t.Helper()
	e := wire.NewEye([]byte(b))
	x, why := blocks.Read(e)
	want, left := tells(b)
	if why != want || (x != nil) != (want == api.OK) {
		t.Fatalf("Read(%q): %v, %v, want %v", b, x, why, want)
	}
	if want == api.OK && (written(t, x) != b[:len(b)-left] || e.Left() != left || e.Fail() != api.OK) {
		t.Fatalf("Read(%q): writes %q, %d are left, want %d", b, written(t, x), e.Left(), left)
	}
	return want
}

// Each byte of some maps made each other one: held against what is to be told.
func TestEachByte(t *testing.T) {
	for _, s := range []string{
		forms(0),
		forms(1, zero),
		forms(64, full(4, 1048576, 1073741824, 5936, 64)),
		forms(150, full(4, 1048576, 1073741824, 5999, 1), zero, full(0, 0, 0, 0, 1)),
		forms(256, p, q, r, s),
	} {
		for i := range len(s) {
			for c := range 256 {
				b := []byte(s + strings.Repeat("\x00", 12))
				b[i] = byte(c)
				isTold(t, string(b))
				isTold(t, string(b[:len(s)]))
			}
		}
	}
}

// Any pointers near what may be, some cut or with a byte changed: held against what is to be told.
func TestAnyBytes(t *testing.T) {
	g := rand.New(rand.NewSource(11))
	l := usual()
	count := map[api.Errno]int{}
	for range 20000 {
		size := g.Intn(400)
		b := num(size, 2)
		for range (size+63)/64 + g.Intn(20)/19 {
			b += form(l[g.Intn(len(l))])
		}
		c := []byte(b)
		switch g.Intn(4) {
		case 0:
			c = c[:g.Intn(len(c)+1)]
		case 1:
			c[g.Intn(len(c))] = byte(g.Intn(256))
		}
		count[isTold(t, string(c))]++
	}
	for _, e := range []api.Errno{api.OK, api.ErrShort, api.ErrForm} {
		if count[e] < 100 {
			t.Errorf("%d of %v: too few to tell anything", count[e], e)
		}
	}
}
