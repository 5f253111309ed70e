// Tests of chapter 12, by what package delta exports alone: this file has one delta, bytes_test.go rows of them.
package delta_test

import (
	"fmt"
	"math"
	"slices"
	"strings"
	"testing"

	"pinstripe/api"
	"pinstripe/blocks"
	"pinstripe/delta"
	"pinstripe/wire"
)

// zero is the pointer of a block of noughts.
var zero api.Ptr

// full answers a pointer of these numbers.
func full(client, life, number, at, long int) api.Ptr {
	return api.Ptr{Stripe: api.Stripe{Client: client, Life: life, Number: number}, At: at, Len: long}
}

// Some pointers, no two of them alike.
var (
	p = full(1, 0, 5, 0, 10)
	q = full(4, 3, 7, 10, 22)
	r = full(4, 0x10203, 0x4050607, 0x1708, 9) // each of its bytes is another one
)

func put(ino, block, size int, to api.Ptr) api.Delta {
	return api.Delta{Do: api.Put, Ino: ino, Block: block, Size: size, To: to}
}

func cut(ino, size int) api.Delta {
	return api.Delta{Do: api.Cut, Ino: ino, Size: size}
}

func move(ino, block int, old, to api.Ptr) api.Delta {
	return api.Delta{Do: api.Move, Ino: ino, Block: block, Old: old, To: to}
}

// with answers a delta that is d, but for what change does to it.
func with(d api.Delta, change func(d *api.Delta)) api.Delta {
	change(&d)
	return d
}

// The model: the chapter told anew.

// may tells whether a delta may be.
func may(d api.Delta) bool {
	for _, l := range [][3]int{{d.Do, 1, 3}, {d.Ino, 2, 128}, {d.Block, 0, 63}, {d.Size, 0, 4096}} {
		if l[0] < l[1] || l[0] > l[2] {
			return false
		}
	}
	if !blocks.May(d.To) || !blocks.May(d.Old) {
		return false
	}
	return d.Do == 1 && d.Old == zero ||
		d.Do == 2 && d.To == zero && d.Old == zero && d.Block == 0 ||
		d.Do == 3 && d.Size == 0
}

// num answers a number in width bytes.
func num(x, width int) string {
	b := ""
	for range width {
		b = string([]byte{byte(x % 256)}) + b
		x /= 256
	}
	return b
}

// ptrForm answers what is written of a pointer.
func ptrForm(x api.Ptr) string {
	return num(x.Client, 1) + num(x.Life, 3) + num(x.Number, 4) + num(x.At, 2) + num(x.Len, 1)
}

// form answers what is written of a delta.
func form(d api.Delta) string {
	b := num(d.Do, 1) + num(d.Ino, 2) + num(d.Block, 1) + num(d.Size, 2)
	switch d.Do {
	case 1:
		b += ptrForm(d.To)
	case 3:
		b += ptrForm(d.Old) + ptrForm(d.To)
	}
	return b
}

// fitsPtr tells whether a pointer's numbers go into the bytes that they are written in.
func fitsPtr(x api.Ptr) bool {
	return fitsAll([][2]int{{x.Client, 1}, {x.Life, 3}, {x.Number, 4}, {x.At, 2}, {x.Len, 1}})
}

// fits tells whether what is written of a delta goes into its bytes.
func fits(d api.Delta) bool {
	return fitsAll([][2]int{{d.Do, 1}, {d.Ino, 2}, {d.Block, 1}, {d.Size, 2}}) &&
		(d.Do != 1 && d.Do != 3 || fitsPtr(d.To)) &&
		(d.Do != 3 || fitsPtr(d.Old))
}

// fitsAll tells whether each number goes into so many bytes.
func fitsAll(l [][2]int) bool {
	return !slices.ContainsFunc(l, func(x [2]int) bool { return x[0] < 0 || x[0] >= 1<<(8*x[1]) })
}

// reader reads bytes as the chapter says, without an eye.
type reader struct{ b string }

// num reads a number that is there.
func (x *reader) num(width int) int {
	n := 0
	for i := range width {
		n = n*256 + int(x.b[i])
	}
	x.b = x.b[width:]
	return n
}

// ptr reads a pointer that is there.
func (x *reader) ptr() api.Ptr {
	return full(x.num(1), x.num(3), x.num(4), x.num(2), x.num(1))
}

// delta reads a delta, and tells what is wrong with it.
func (x *reader) delta() (d api.Delta, why api.Errno) {
	if len(x.b) < 6 {
		return d, api.ErrShort
	}
	d = api.Delta{Do: x.num(1), Ino: x.num(2), Block: x.num(1), Size: x.num(2)}
	if long := map[int]int{1: 11, 3: 22}[d.Do]; len(x.b) < long {
		return api.Delta{}, api.ErrShort
	}
	if d.Do == 3 {
		d.Old = x.ptr()
	}
	if d.Do == 1 || d.Do == 3 {
		d.To = x.ptr()
	}
	if !may(d) {
		return api.Delta{}, api.ErrForm
	}
	return d, api.OK
}

// What may be, and what may not.

// usualPtrs answers pointers that may be: each field at its least and at its most.
func usualPtrs() []api.Ptr {
	return []api.Ptr{
		zero, p, q, r, full(0, 0, 0, 0, 1), full(0, 0, 0, 0, 64), full(4, 0, 0, 0, 1), full(0, 1048576, 0, 0, 1), full(0, 0, 1073741824, 0, 1),
		full(0, 0, 0, 5999, 1), full(0, 0, 0, 5936, 64), full(4, 1048576, 1073741824, 5936, 64),
	}
}

// strangePtrs answers pointers that may not be, none of them zero: one field past its least or its most.
func strangePtrs() []api.Ptr {
	return []api.Ptr{
		full(-1, 0, 0, 0, 1), full(5, 0, 0, 0, 1), full(256, 0, 0, 0, 1), full(0, -1, 0, 0, 1), full(0, 1048577, 0, 0, 1), full(0, 1<<24, 0, 0, 1),
		full(0, 0, -1, 0, 1), full(0, 0, 1073741825, 0, 1), full(0, 0, 1<<32, 0, 1), full(0, 0, 0, -1, 1), full(0, 0, 0, 6000, 1), full(0, 0, 0, 65536, 1),
		full(0, 0, 0, 0, -1), full(0, 0, 0, 0, 65), full(0, 0, 0, 0, 256), full(0, 0, 0, 5999, 2), full(0, 0, 0, 5937, 64),
		full(1, 0, 0, 0, 0), full(0, 1, 0, 0, 0), full(0, 0, 1, 0, 0), full(0, 0, 0, 1, 0), // a Len of 0, but not the zero pointer
		full(math.MinInt, 0, 0, 0, 1), full(0, math.MaxInt, 0, 0, 1), full(0, 0, 0, math.MaxInt, math.MaxInt), full(0, 0, 0, math.MinInt, math.MinInt),
	}
}

// usual answers deltas that may be: of each kind each field at its least, at its most and between.
func usual() []api.Delta {
	l := []api.Delta{}
	for _, ino := range []int{2, 3, 127, 128} {
		for _, size := range []int{0, 1, 255, 256, 4095, 4096} {
			l = append(l, cut(ino, size), put(ino, 1, size, p), put(ino, 63, size, zero))
		}
		for _, block := range []int{0, 1, 62, 63} {
			l = append(l, put(ino, block, 0, q), put(ino, block, 4096, r), move(ino, block, p, q), move(ino, block, q, r))
		}
	}
	for _, x := range usualPtrs() {
		l = append(l, put(2, 0, 0, x), put(128, 63, 4096, x), move(2, 0, x, p), move(2, 0, p, x), move(128, 63, x, x), move(9, 9, x, zero), move(9, 9, zero, x))
	}
	return l
}

// strange answers deltas that may not be: one field that may not be so in one that might.
func strange() []api.Delta {
	l := []api.Delta{{}}
	for _, d := range []api.Delta{put(2, 0, 0, zero), put(128, 63, 4096, p), cut(2, 0), cut(128, 4096), move(2, 0, zero, zero), move(128, 63, p, q)} {
		for _, do := range []int{0, 4, -1, 5, 255, 256, 257, 258, 259, math.MinInt, math.MaxInt} {
			l = append(l, with(d, func(d *api.Delta) { d.Do = do }))
		}
		for _, ino := range []int{1, 129, 0, -1, 130, 255, 256, 258, 65535, 65536, 65538, math.MinInt, math.MaxInt} {
			l = append(l, with(d, func(d *api.Delta) { d.Ino = ino }))
		}
		for _, block := range []int{-1, 64, 65, 255, 256, math.MinInt, math.MaxInt} {
			l = append(l, with(d, func(d *api.Delta) { d.Block = block }))
		}
		for _, size := range []int{-1, 4097, 4098, 8192, 65535, 65536, math.MinInt, math.MaxInt} {
			l = append(l, with(d, func(d *api.Delta) { d.Size = size }))
		}
		for _, x := range strangePtrs() {
			l = append(l, with(d, func(d *api.Delta) { d.To = x }), with(d, func(d *api.Delta) { d.Old = x }))
		}
	}
	for _, x := range usualPtrs()[1:] { // what the kind has no use for, though it may be
		l = append(l,
			with(put(2, 0, 0, zero), func(d *api.Delta) { d.Old = x }),
			with(put(2, 0, 0, x), func(d *api.Delta) { d.Old = x }),
			with(cut(2, 0), func(d *api.Delta) { d.To = x }),
			with(cut(2, 0), func(d *api.Delta) { d.Old = x }),
			with(cut(2, 0), func(d *api.Delta) { d.To, d.Old = x, x }))
	}
	for _, block := range []int{1, 2, 62, 63} {
		l = append(l, with(cut(2, 64), func(d *api.Delta) { d.Block = block }))
	}
	for _, size := range []int{1, 2, 64, 4095, 4096} {
		l = append(l, with(move(2, 0, p, q), func(d *api.Delta) { d.Size = size }))
	}
	return l
}

func TestMay(t *testing.T) {
	for _, d := range usual() {
		if !delta.May(d) || !may(d) {
			t.Errorf("May(%v): %v", d, delta.May(d))
		}
	}
	for _, d := range strange() {
		if delta.May(d) || may(d) {
			t.Errorf("May(%v): %v", d, delta.May(d))
		}
	}
}

// All of some numbers in all fields, held against the chapter told anew.
func TestMayOfAll(t *testing.T) {
	ptrs := []api.Ptr{zero, p, full(0, 0, 0, 0, 64), full(4, 1048576, 1073741824, 5936, 64), full(5, 0, 0, 0, 1), full(0, 0, 0, 1, 0)}
	count := [2]int{}
	for do := -1; do <= 5; do++ {
		for _, ino := range []int{0, 1, 2, 128, 129} {
			for _, block := range []int{-1, 0, 1, 63, 64} {
				for _, size := range []int{-1, 0, 1, 4096, 4097} {
					for _, to := range ptrs {
						for _, old := range ptrs {
							d := api.Delta{Do: do, Ino: ino, Block: block, Size: size, To: to, Old: old}
							want := may(d)
							if got := delta.May(d); got != want {
								t.Fatalf("May(%v): %v, want %v", d, got, want)
							}
							if want {
								count[1]++
							} else {
								count[0]++
							}
						}
					}
				}
			}
		}
	}
	if count[0] < 100 || count[1] < 100 {
		t.Errorf("%v: too few to tell anything", count)
	}
}

// wrote answers what Put writes.
func wrote(d api.Delta) (string, api.Errno) {
	pen := &wire.Pen{}
	delta.Put(pen, d)
	b, why := pen.Bytes()
	return string(b), why
}

// P12.1: the bytes of each kind, field by field.
func TestPut(t *testing.T) {
	const bytesOfP, bytesOfR = "\x01\x00\x00\x00\x00\x00\x00\x05\x00\x00\x0a", "\x04\x01\x02\x03\x04\x05\x06\x07\x17\x08\x09"
	for _, l := range []struct {
		d    api.Delta
		want string
	}{
		{put(0x7b, 0x2c, 0x0d0e, r), "\x01\x00\x7b\x2c\x0d\x0e" + bytesOfR},
		{put(2, 0, 0, zero), "\x01\x00\x02\x00\x00\x00" + strings.Repeat("\x00", 11)},
		{put(128, 63, 4096, p), "\x01\x00\x80\x3f\x10\x00" + bytesOfP},
		{cut(2, 5), "\x02\x00\x02\x00\x00\x05"},
		{cut(0x7b, 0x0d0e), "\x02\x00\x7b\x00\x0d\x0e"},
		{cut(128, 4096), "\x02\x00\x80\x00\x10\x00"},
		{move(0x7b, 0x2c, p, r), "\x03\x00\x7b\x2c\x00\x00" + bytesOfP + bytesOfR},
		{move(2, 0, r, p), "\x03\x00\x02\x00\x00\x00" + bytesOfR + bytesOfP},
		{move(128, 63, zero, p), "\x03\x00\x80\x3f\x00\x00" + strings.Repeat("\x00", 11) + bytesOfP},
	} {
		if b, why := wrote(l.d); b != l.want || why != api.OK {
			t.Errorf("Put(%v): %q, %v, want %q", l.d, b, why, l.want)
		}
	}
	for _, d := range usual() {
		if b, why := wrote(d); b != form(d) || why != api.OK {
			t.Errorf("Put(%v): %q, %v, want %q", d, b, why, form(d))
		}
	}
}

// A delta that may not be is written, if its numbers fit; else the pen fails.
func TestPutOfWhatMayNotBe(t *testing.T) {
	count := [2]int{}
	for _, d := range strange() {
		b, why := wrote(d)
		if fits(d) {
			count[1]++
			if b != form(d) || why != api.OK {
				t.Errorf("Put(%v): %q, %v, want %q", d, b, why, form(d))
			}
			continue
		}
		count[0]++
		if b != "" || why != api.ErrArg {
			t.Errorf("Put(%v): %q, %v, want none, %v", d, b, why, api.ErrArg)
		}
	}
	if count[0] < 100 || count[1] < 100 {
		t.Errorf("%v: too few to tell anything", count)
	}
}

// Put writes behind what the pen has; one that has failed, or has no room, says so; one that is nil is none.
func TestPutIntoPens(t *testing.T) {
	pen := &wire.Pen{}
	pen.Text("ab")
	want := "\x00\x02ab"
	for _, d := range usual() {
		delta.Put(pen, d)
		want += form(d)
	}
	pen.Bool(true)
	if b, why := pen.Bytes(); string(b) != want+"\x01" || why != api.OK {
		t.Errorf("%q, %v, want %q", b, why, want)
	}
	for _, d := range []api.Delta{put(2, 0, 10, p), cut(2, 5), move(2, 0, p, q)} {
		failed := &wire.Pen{}
		failed.Num(1, 8)
		delta.Put(failed, d)
		if b, why := failed.Bytes(); len(b) != 0 || why != api.ErrArg {
			t.Errorf("a pen that failed: %q, %v", b, why)
		}
		for room := range 30 {
			narrow := &wire.Pen{}
			narrow.Raw(make([]byte, api.MaxBody-1000))
			narrow.Raw(make([]byte, 996-room))
			delta.Put(narrow, d)
			if _, why := narrow.Bytes(); (why == api.OK) != (room >= len(form(d))) || why != api.OK && why != api.ErrLong {
				t.Errorf("a pen with room for %d, and %v: %v", room, d, why)
			}
		}
		delta.Put(nil, d)
	}
	full := &wire.Pen{}
	full.Raw(make([]byte, 65534))
	delta.Put(full, api.Delta{})
	if b, why := full.Bytes(); len(b) != 0 || why != api.ErrLong {
		t.Errorf("a pen that is full: %d bytes, %v", len(b), why)
	}
}

// P12.2 of one delta: what was put is got; the eye stands behind it.
func TestGet(t *testing.T) {
	for _, d := range usual() {
		e := wire.NewEye([]byte("\x07" + form(d) + form(cut(2, 5)) + "rest"))
		e.Num(1)
		if got, why := delta.Get(e); got != d || why != api.OK {
			t.Errorf("Get of %v: %v, %v", d, got, why)
		}
		if got, why := delta.Get(e); got != cut(2, 5) || why != api.OK {
			t.Errorf("Get behind %v: %v, %v", d, got, why)
		}
		if e.Left() != 4 || e.Fail() != api.OK || e.Num(4) != 0x72657374 {
			t.Errorf("behind %v: %d are left, %v", d, e.Left(), e.Fail())
		}
	}
}

// gets answers what Get says of bytes, after it held it against what the chapter told anew says.
func gets(t *testing.T, b string) api.Errno {
	t.Helper()
	e, m := wire.NewEye([]byte(b)), &reader{b}
	want, why := m.delta()
	got, is := delta.Get(e)
	if got != want || is != why {
		t.Fatalf("Get(%q): %v, %v, want %v, %v", b, got, is, want, why)
	}
	if why == api.OK && (e.Left() != len(m.b) || e.Fail() != api.OK) {
		t.Fatalf("Get(%q): %d are left, %v, want %d", b, e.Left(), e.Fail(), len(m.b))
	}
	return is
}

// isNoDelta looks at what Get says of what is no delta.
func isNoDelta(t *testing.T, what string, e *wire.Eye, want api.Errno) {
	t.Helper()
	if d, why := delta.Get(e); d != (api.Delta{}) || why != want {
		t.Errorf("%s: Get %v, %v, want none, %v", what, d, why, want)
	}
}

// Bytes of a delta that may not be are ErrForm, whatever follows.
func TestGetOfWhatMayNotBe(t *testing.T) {
	for _, d := range strange() {
		if !fits(d) {
			continue
		}
		want := api.ErrForm
		if written := (&reader{form(d)}); d.Do >= 1 && d.Do <= 3 { // what is not written of a delta is not read again: what is left of it may be
			_, want = written.delta()
		}
		for _, rest := range []string{"", "\x00", form(d), strings.Repeat("\xff", 40)} {
			if got := gets(t, form(d)+rest); got != want {
				t.Errorf("Get of %v: %v, want %v", d, got, want)
			}
		}
	}
	for _, do := range []int{0, 4, 5, 128, 255} {
		isNoDelta(t, fmt.Sprint("kind ", do), wire.NewEye([]byte(num(do, 1)+"\x00\x02\x00\x00\x00")), api.ErrForm)
		isNoDelta(t, fmt.Sprint("kind ", do), wire.NewEye([]byte(num(do, 1)+"\x00\x02\x00\x00\x00"+strings.Repeat("\x00", 22))), api.ErrForm)
	}
}

// Each shorter beginning of a delta's bytes is ErrShort, whether it may be or not.
func TestGetOfShorter(t *testing.T) {
	l := slices.DeleteFunc(strange(), func(d api.Delta) bool { return !fits(d) })
	for _, d := range append(l, usual()...) {
		b := form(d)
		for n := range len(b) {
			e := wire.NewEye([]byte(b[:n]))
			isNoDelta(t, fmt.Sprintf("%d bytes of %q", n, b), e, api.ErrShort)
			isNoDelta(t, "asked again", e, api.ErrShort)
		}
	}
}

func TestGetOfNoEye(t *testing.T) {
	failed := func(f func(e *wire.Eye)) *wire.Eye {
		e := wire.NewEye([]byte("\x02" + form(put(2, 0, 10, p))))
		f(e)
		return e
	}
	for name, l := range map[string]struct {
		e    *wire.Eye
		want api.Errno
	}{
		"nil":          {nil, api.ErrDead},
		"no call's":    {&wire.Eye{}, api.ErrDead},
		"no bytes":     {wire.NewEye(nil), api.ErrShort},
		"failed arg":   {failed(func(e *wire.Eye) { e.Num(0) }), api.ErrArg},
		"failed long":  {failed(func(e *wire.Eye) { e.Raw(0) }), api.ErrLong},
		"failed form":  {failed(func(e *wire.Eye) { e.Bool() }), api.ErrForm},
		"failed short": {failed(func(e *wire.Eye) { e.Raw(65535) }), api.ErrShort},
	} {
		left := l.e.Left()
		for range 2 {
			isNoDelta(t, name, l.e, l.want)
		}
		if l.e.Left() != left {
			t.Errorf("%s: %d bytes are left, ahead of it %d", name, l.e.Left(), left)
		}
	}
}

// Each byte of some deltas made each other one: held against the chapter told anew.
func TestGetOfEachByte(t *testing.T) {
	count := map[api.Errno]int{}
	for _, d := range []api.Delta{cut(2, 0), cut(128, 4096), put(2, 0, 0, zero), put(128, 63, 4096, full(4, 1048576, 1073741824, 5936, 64)), move(2, 0, zero, zero), move(128, 63, full(4, 1048576, 1073741824, 5936, 64), p), move(9, 7, p, r)} {
		for i := range len(form(d)) {
			for c := range 256 {
				b := []byte(form(d))
				b[i] = byte(c)
				count[gets(t, string(b))]++
				count[gets(t, string(b)+strings.Repeat("\x00", 22))]++
				count[gets(t, string(b[:len(b)-1]))]++
			}
		}
	}
	for _, e := range []api.Errno{api.OK, api.ErrShort, api.ErrForm} {
		if count[e] < 100 {
			t.Errorf("%d of %v: too few to tell anything", count[e], e)
		}
	}
}

func TestSame(t *testing.T) {
	a, b, c := put(2, 0, 10, p), cut(2, 5), move(3, 1, p, q)
	for _, l := range []struct {
		a, b []api.Delta
		want bool
	}{
		{nil, nil, true},
		{nil, []api.Delta{}, true},
		{[]api.Delta{}, []api.Delta{}, true},
		{[]api.Delta{a}, nil, false},
		{[]api.Delta{{}}, nil, false},
		{[]api.Delta{{}}, []api.Delta{{}}, true},
		{[]api.Delta{a}, []api.Delta{a}, true},
		{[]api.Delta{a}, []api.Delta{b}, false},
		{[]api.Delta{a, b, c}, []api.Delta{a, b, c}, true},
		{[]api.Delta{a, b, c}, []api.Delta{a, b}, false},
		{[]api.Delta{a, b, c}, []api.Delta{b, c}, false},
		{[]api.Delta{a, b, c}, []api.Delta{a, b, c, c}, false},
		{[]api.Delta{a, b, c}, []api.Delta{b, a, c}, false},
		{[]api.Delta{a, b, c}, []api.Delta{a, c, b}, false},
		{[]api.Delta{a, b, c}, []api.Delta{c, b, a}, false},
		{[]api.Delta{a, a, b}, []api.Delta{a, b, b}, false},
	} {
		if got, back := delta.Same(l.a, l.b), delta.Same(l.b, l.a); got != l.want || back != l.want {
			t.Errorf("Same(%v, %v): %v, the other way %v, want %v", l.a, l.b, got, back, l.want)
		}
	}
}

// One field of one delta makes lists unlike, at each place, whether the deltas may be or not.
func TestSameOfEachField(t *testing.T) {
	fields := []func(d *api.Delta) *int{
		func(d *api.Delta) *int { return &d.Do },
		func(d *api.Delta) *int { return &d.Ino },
		func(d *api.Delta) *int { return &d.Block },
		func(d *api.Delta) *int { return &d.Size },
	}
	for _, ptr := range []func(d *api.Delta) *api.Ptr{func(d *api.Delta) *api.Ptr { return &d.To }, func(d *api.Delta) *api.Ptr { return &d.Old }} {
		fields = append(fields,
			func(d *api.Delta) *int { return &ptr(d).Client },
			func(d *api.Delta) *int { return &ptr(d).Life },
			func(d *api.Delta) *int { return &ptr(d).Number },
			func(d *api.Delta) *int { return &ptr(d).At },
			func(d *api.Delta) *int { return &ptr(d).Len })
	}
	for _, d := range append(usual(), strange()...) {
		l := []api.Delta{d, cut(2, 5), d}
		if !delta.Same(l, slices.Clone(l)) {
			t.Errorf("%v is not the same as itself", l)
		}
		for i := range l {
			for n, field := range fields {
				for _, by := range []int{1, -1, 256, 1 << 32} {
					other := slices.Clone(l)
					*field(&other[i]) += by
					if delta.Same(l, other) || delta.Same(other, l) {
						t.Errorf("%v is the same as %v: field %d at %d", l, other, n, i)
					}
				}
			}
		}
	}
}
