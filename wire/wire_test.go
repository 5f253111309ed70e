// Tests of chapter 1, by what package wire exports alone.
package wire_test

import (
	"bytes"
	"fmt"
	"math"
	"math/rand"
	"strings"
	"testing"

	"pinstripe/api"
	"pinstripe/wire"
)

// written answers the bytes of a new pen with which f wrote.
func written(f func(p *wire.Pen)) ([]byte, api.Errno) {
	p := &wire.Pen{}
	f(p)
	return p.Bytes()
}

// wants fails, if f does not write just want.
func wants(t *testing.T, what string, want []byte, f func(p *wire.Pen)) {
	t.Helper()
	got, e := written(f)
	if e != api.OK || !bytes.Equal(got, want) {
		t.Errorf("%s: %s, %d (%v), want %s", what, short(got), int(e), e, short(want))
	}
}

// refuses fails, if f does not make a pen fail with that error, and leave no bytes.
func refuses(t *testing.T, what string, want api.Errno, f func(p *wire.Pen)) {
	t.Helper()
	got, e := written(f)
	if e != want || len(got) != 0 {
		t.Errorf("%s: %s, %d (%v), want none, %d (%v)", what, short(got), int(e), e, int(want), want)
	}
}

// short tells a row that a line can hold.
func short(b []byte) string {
	if len(b) > 24 {
		return fmt.Sprintf("%v.. (%d bytes)", b[:24], len(b))
	}
	return fmt.Sprint(b)
}

// row answers n bytes, of which neighbours are unlike.
func row(n int) []byte {
	b := make([]byte, n)
	for i := range b {
		b[i] = byte(i*7 + i>>8)
	}
	return b
}

// counted answers b behind its count.
func counted(b []byte) []byte {
	return append([]byte{byte(len(b) >> 8), byte(len(b))}, b...)
}

// top answers the greatest number of that many bytes.
func top(width int) int {
	return 1<<(8*width) - 1
}

// full answers a pen in which just left more bytes go.
func full(left int) *wire.Pen {
	p := &wire.Pen{}
	p.Raw(make([]byte, api.MaxBody-2-left))
	return p
}

// state fails, if the eye does not tell that Fail, Left and End.
func state(t *testing.T, what string, e *wire.Eye, fail api.Errno, left int, end api.Errno) {
	t.Helper()
	if e.Fail() != fail || e.Left() != left || e.End() != end {
		t.Errorf("%s: Fail %v, Left %d, End %v, want %v, %d, %v", what, e.Fail(), e.Left(), e.End(), fail, left, end)
	}
}

// blind fails, if the eye does not read 0, none and false of all kinds, or if that changes it.
func blind(t *testing.T, what string, e *wire.Eye) {
	t.Helper()
	fail, left, end := e.Fail(), e.Left(), e.End()
	for _, n := range []int{1, 2, 7, 0, -1, 8, 65535} {
		if x := e.Num(n); x != 0 {
			t.Errorf("%s: Num(%d) behind a failure: %d", what, n, x)
		}
		if x := e.Text(n); x != "" {
			t.Errorf("%s: Text(%d) behind a failure: %q", what, n, x)
		}
		if x := e.Raw(n); len(x) != 0 {
			t.Errorf("%s: Raw(%d) behind a failure: %v", what, n, x)
		}
		if e.Bool() {
			t.Errorf("%s: Bool behind a failure: true", what)
		}
	}
	state(t, what+" (behind more calls)", e, fail, left, end)
}

// The chapter's examples.
func TestExamples(t *testing.T) {
	wants(t, "the pen", []byte{0, 5, 0, 2, 97, 98, 1}, func(p *wire.Pen) {
		p.Num(5, 2)
		p.Text("ab")
		p.Bool(true)
	})
	e := wire.NewEye([]byte{0, 5, 0, 2, 97})
	if x := e.Num(2); x != 5 {
		t.Errorf("Num(2): %d, want 5", x)
	}
	if s := e.Text(9); s != "" {
		t.Errorf("Text(9): %q, want none", s)
	}
	state(t, "the eye", e, api.ErrShort, 3, api.ErrShort)
}

// P1.1: a number of each width, the least, the greatest and one between.
func TestPenNum(t *testing.T) {
	for width := 1; width <= 7; width++ {
		rising, x := []byte{}, 0
		for i := 1; i <= width; i++ {
			rising = append(rising, byte(i))
			x = x<<8 + i
		}
		what := fmt.Sprint("width ", width)
		wants(t, what+", rising", rising, func(p *wire.Pen) { p.Num(x, width) })
		wants(t, what+", 0", make([]byte, width), func(p *wire.Pen) { p.Num(0, width) })
		wants(t, what+", greatest", bytes.Repeat([]byte{255}, width), func(p *wire.Pen) { p.Num(top(width), width) })
		refuses(t, what+", one more", api.ErrArg, func(p *wire.Pen) { p.Num(top(width)+1, width) })
		refuses(t, what+", -1", api.ErrArg, func(p *wire.Pen) { p.Num(-1, width) })
		refuses(t, what+", MinInt", api.ErrArg, func(p *wire.Pen) { p.Num(math.MinInt, width) })
		refuses(t, what+", MaxInt", api.ErrArg, func(p *wire.Pen) { p.Num(math.MaxInt, width) })
		refuses(t, what+", high bits", api.ErrArg, func(p *wire.Pen) { p.Num(1<<62, width) })
	}
	for _, width := range []int{0, 8, 9, -1, 64, -64, 1 << 61, math.MaxInt, math.MinInt} {
		for _, x := range []int{0, 1, -1} {
			refuses(t, fmt.Sprintf("Num(%d, %d)", x, width), api.ErrArg, func(p *wire.Pen) { p.Num(x, width) })
		}
	}
}

// P1.1: a row of bytes behind its count, none and the longest that a body can hold.
func TestPenTextAndRaw(t *testing.T) {
	for _, n := range []int{0, 1, 2, 255, 256, 257, 448, 4096, 65533, 65534} {
		b := row(n)
		wants(t, fmt.Sprint("Raw of ", n), counted(b), func(p *wire.Pen) { p.Raw(b) })
		wants(t, fmt.Sprint("Text of ", n), counted(b), func(p *wire.Pen) { p.Text(string(b)) })
	}
	wants(t, "Raw(nil)", []byte{0, 0}, func(p *wire.Pen) { p.Raw(nil) })
	wants(t, "a Text of any bytes", []byte{0, 7, 0, 0xff, 0xc3, 0xa4, 0x80, '/', 0}, func(p *wire.Pen) { p.Text("\x00\xff\u00e4\x80/\x00") })
	for _, n := range []int{65535, 65536, 65537, 1 << 17, 1<<17 + 5} {
		refuses(t, fmt.Sprint("Raw of ", n), api.ErrLong, func(p *wire.Pen) { p.Raw(make([]byte, n)) })
		refuses(t, fmt.Sprint("Text of ", n), api.ErrLong, func(p *wire.Pen) { p.Text(strings.Repeat("a", n)) })
	}
}

// P1.1: 1 or 0 in one byte; and all kinds one behind the other.
func TestPenRow(t *testing.T) {
	wants(t, "Bool(true)", []byte{1}, func(p *wire.Pen) { p.Bool(true) })
	wants(t, "Bool(false)", []byte{0}, func(p *wire.Pen) { p.Bool(false) })
	wants(t, "nothing", nil, func(p *wire.Pen) {})
	wants(t, "all kinds", []byte{1, 0, 3, 1, 2, 3, 0, 0, 1, 'x', 1, 2, 3, 0, 0}, func(p *wire.Pen) {
		p.Bool(true)
		p.Raw([]byte{1, 2, 3})
		p.Bool(false)
		p.Text("x")
		p.Num(0x010203, 3)
		p.Raw(nil)
	})
}

// P1.1: a body that is just full, and one byte more, of each kind.
func TestPenFull(t *testing.T) {
	kinds := []struct {
		what string
		size int
		f    func(p *wire.Pen)
	}{
		{"Num in 1", 1, func(p *wire.Pen) { p.Num(7, 1) }},
		{"Num in 7", 7, func(p *wire.Pen) { p.Num(7, 7) }},
		{"Bool", 1, func(p *wire.Pen) { p.Bool(true) }},
		{"Raw of none", 2, func(p *wire.Pen) { p.Raw(nil) }},
		{"Raw of 5", 7, func(p *wire.Pen) { p.Raw(make([]byte, 5)) }},
		{"Text of none", 2, func(p *wire.Pen) { p.Text("") }},
		{"Text of 5", 7, func(p *wire.Pen) { p.Text("12345") }},
	}
	for _, k := range kinds {
		p := full(k.size)
		k.f(p)
		if b, e := p.Bytes(); e != api.OK || len(b) != api.MaxBody {
			t.Errorf("%s, just full: %d bytes, %v", k.what, len(b), e)
		}
		p.Num(-1, 1)
		if b, e := p.Bytes(); e != api.ErrArg || len(b) != 0 {
			t.Errorf("%s, what may not be written behind a full body: %d bytes, %v, want ErrArg", k.what, len(b), e)
		}
		for left := range k.size {
			p := full(left)
			k.f(p)
			if b, e := p.Bytes(); e != api.ErrLong || len(b) != 0 {
				t.Errorf("%s, room for %d: %d bytes, %v, want ErrLong", k.what, left, len(b), e)
			}
		}
	}
	p := &wire.Pen{}
	for range api.MaxBody {
		p.Num(9, 1)
	}
	if b, e := p.Bytes(); e != api.OK || !bytes.Equal(b, bytes.Repeat([]byte{9}, api.MaxBody)) {
		t.Errorf("%d numbers: %d bytes, %v", api.MaxBody, len(b), e)
	}
	p.Num(9, 1)
	if b, e := p.Bytes(); e != api.ErrLong || len(b) != 0 {
		t.Errorf("%d numbers and one: %d bytes, %v, want ErrLong", api.MaxBody, len(b), e)
	}
}

// P1.1: the first failure stands, whatever comes behind it, and however often Bytes is asked.
func TestPenFailsForGood(t *testing.T) {
	long := make([]byte, api.MaxBody)
	failures := []struct {
		what string
		want api.Errno
		f    func(p *wire.Pen)
	}{
		{"a width of 0", api.ErrArg, func(p *wire.Pen) { p.Num(0, 0) }},
		{"a width of 8", api.ErrArg, func(p *wire.Pen) { p.Num(0, 8) }},
		{"a number below 0", api.ErrArg, func(p *wire.Pen) { p.Num(-1, 1) }},
		{"a number too great", api.ErrArg, func(p *wire.Pen) { p.Num(256, 1) }},
		{"a Raw too long", api.ErrLong, func(p *wire.Pen) { p.Raw(long) }},
		{"a Text too long", api.ErrLong, func(p *wire.Pen) { p.Text(string(long)) }},
		{"a body too long", api.ErrLong, func(p *wire.Pen) { p.Raw(long[:40000]); p.Raw(long[:40000]) }},
	}
	for _, first := range failures {
		for _, second := range failures {
			p := &wire.Pen{}
			p.Num(1, 1)
			first.f(p)
			for range 2 {
				if b, e := p.Bytes(); e != first.want || len(b) != 0 {
					t.Errorf("%s: %s, %v, want %v", first.what, short(b), e, first.want)
				}
				p.Num(2, 2)
				p.Bool(true)
				p.Text("ab")
				p.Raw([]byte{1})
				second.f(p)
			}
			if b, e := p.Bytes(); e != first.want || len(b) != 0 {
				t.Errorf("%s, then %s: %s, %v, want %v", first.what, second.what, short(b), e, first.want)
			}
		}
	}
	refuses(t, "a count that fits without its bytes, then what would fit", api.ErrLong, func(p *wire.Pen) {
		p.Raw(make([]byte, 65530))
		p.Raw(make([]byte, 3))
		p.Num(1, 1)
	})
}

// R4, R5: a pen keeps nothing that it was handed, shares nothing that it answers, and knows of no other pen.
func TestPenShares(t *testing.T) {
	room := []byte{1, 2, 3, 4, 5, 6}
	in := room[:3]
	p, other := &wire.Pen{}, &wire.Pen{}
	p.Raw(in)
	other.Num(77, 1)
	if !bytes.Equal(room, []byte{1, 2, 3, 4, 5, 6}) {
		t.Errorf("Raw changed what it was handed: %v", room)
	}
	in[0], in[2] = 50, 51
	want := []byte{0, 3, 1, 2, 3}
	first, _ := p.Bytes()
	again, _ := p.Bytes()
	if !bytes.Equal(first, want) || !bytes.Equal(again, want) {
		t.Fatalf("bytes that were changed behind Raw: %v, %v, want %v", first, again, want)
	}
	whole := first[:cap(first)]
	for i := range whole {
		whole[i] = 99
	}
	if !bytes.Equal(again, want) {
		t.Errorf("two answers share memory: %v", again)
	}
	p.Num(4, 1)
	longer, e := p.Bytes()
	if e != api.OK || !bytes.Equal(longer, append(want, 4)) {
		t.Errorf("an answer that was changed: %v, %v", longer, e)
	}
	_ = append(longer, 8, 8, 8)
	p.Bool(true)
	if last, _ := p.Bytes(); !bytes.Equal(last, append(want, 4, 1)) {
		t.Errorf("an answer that grew: %v", last)
	}
	if !bytes.Equal(again, want) || !bytes.Equal(longer, append(want, 4)) {
		t.Errorf("answers changed by later writes: %v, %v", again, longer)
	}
	if b, e := other.Bytes(); e != api.OK || !bytes.Equal(b, []byte{77}) {
		t.Errorf("the other pen: %v, %v", b, e)
	}
}

// P1.2: a number of each width; a width that may not be, asked ahead of whether there are bytes.
func TestEyeNum(t *testing.T) {
	for width := 1; width <= 7; width++ {
		what := fmt.Sprint("width ", width)
		rising, x := []byte{}, 0
		for i := 1; i <= width; i++ {
			rising = append(rising, byte(i))
			x = x<<8 + i
		}
		for _, c := range []struct {
			b []byte
			x int
		}{{rising, x}, {make([]byte, width), 0}, {bytes.Repeat([]byte{255}, width), top(width)}} {
			e := wire.NewEye(append(bytes.Clone(c.b), 0xee))
			if got := e.Num(width); got != c.x {
				t.Errorf("%s: %v is %d, want %d", what, c.b, got, c.x)
			}
			state(t, what, e, api.OK, 1, api.ErrLong)
		}
		for n := range width {
			e := wire.NewEye(bytes.Repeat([]byte{1}, n))
			if got := e.Num(width); got != 0 {
				t.Errorf("%s: of %d bytes: %d", what, n, got)
			}
			state(t, fmt.Sprintf("%s, of %d bytes", what, n), e, api.ErrShort, n, api.ErrShort)
			blind(t, what, e)
		}
	}
	for _, width := range []int{0, 8, 9, -1, 64, -64, math.MaxInt, math.MinInt} {
		for _, n := range []int{0, 3, 20} {
			e := wire.NewEye(bytes.Repeat([]byte{1}, n))
			if got := e.Num(width); got != 0 {
				t.Errorf("Num(%d): %d", width, got)
			}
			state(t, fmt.Sprintf("Num(%d) of %d bytes", width, n), e, api.ErrArg, n, api.ErrArg)
			blind(t, fmt.Sprintf("Num(%d)", width), e)
		}
	}
}

// readings are the two ways of reading counted bytes: all that is said of one holds for the other.
var readings = map[string]func(e *wire.Eye, most int) []byte{
	"Text": func(e *wire.Eye, most int) []byte { return []byte(e.Text(most)) },
	"Raw":  func(e *wire.Eye, most int) []byte { return e.Raw(most) },
}

// P1.2: counted bytes, none and the longest.
func TestEyeTextAndRaw(t *testing.T) {
	for kind, read := range readings {
		for _, n := range []int{0, 1, 2, 255, 256, 257, 65534, 65535} {
			for _, most := range []int{n, n + 1, 65535, 65536, math.MaxInt} {
				b := row(n)
				e := wire.NewEye(append(counted(b), 5, 6))
				what := fmt.Sprintf("%s(%d) of %d", kind, most, n)
				if got := read(e, most); !bytes.Equal(got, b) {
					t.Errorf("%s: %s, want %s", what, short(got), short(b))
				}
				state(t, what, e, api.OK, 2, api.ErrLong)
				if x := e.Num(2); x != 5<<8+6 {
					t.Errorf("%s: behind it: %d", what, x)
				}
				state(t, what, e, api.OK, 0, api.OK)
			}
		}
	}
}

// P1.2: what makes Text and Raw fail, and which of several errors it is.
func TestEyeTextAndRawFail(t *testing.T) {
	cases := []struct {
		what string
		b    []byte
		most int
		want api.Errno
	}{
		{"most of -1, no bytes", nil, -1, api.ErrArg},
		{"most of -1, an empty one", []byte{0, 0}, -1, api.ErrArg},
		{"most of -1, one byte", []byte{0}, -1, api.ErrArg},
		{"the least most", counted(row(3)), math.MinInt, api.ErrArg},
		{"no bytes", nil, 9, api.ErrShort},
		{"half a count", []byte{0}, 9, api.ErrShort},
		{"half a count, most 0", []byte{9}, 0, api.ErrShort},
		{"one byte too few", []byte{0, 3, 1, 2}, 9, api.ErrShort},
		{"one byte too few, most just so", []byte{0, 3, 1, 2}, 3, api.ErrShort},
		{"a count alone", []byte{0, 1}, 1, api.ErrShort},
		{"the longest, a byte too few", counted(row(65535))[:65536], 65535, api.ErrShort},
		{"one above most", counted(row(3)), 2, api.ErrLong},
		{"one above 0", counted(row(1)), 0, api.ErrLong},
		{"above most, and too few", []byte{0, 3, 1}, 2, api.ErrLong},
		{"far above most, and no bytes", []byte{255, 255}, 65534, api.ErrLong},
		{"256 above 255", counted(row(256)), 255, api.ErrLong},
		{"the longest, above most", counted(row(65535)), 65534, api.ErrLong},
	}
	for kind, read := range readings {
		for _, c := range cases {
			for _, ahead := range []int{0, 2} {
				what := kind + ", " + c.what
				e := wire.NewEye(append(row(ahead), c.b...))
				for range ahead {
					e.Num(1)
				}
				if got := read(e, c.most); len(got) != 0 {
					t.Errorf("%s: %s, want none", what, short(got))
				}
				state(t, what, e, c.want, len(c.b), c.want)
				blind(t, what, e)
			}
		}
	}
}

// P1.2: Bool's byte is 0 or 1.
func TestEyeBool(t *testing.T) {
	for x := range 256 {
		e := wire.NewEye([]byte{byte(x), 7})
		what := fmt.Sprint("Bool of ", x)
		if got := e.Bool(); got != (x == 1) {
			t.Errorf("%s: %v", what, got)
		}
		if x > 1 {
			state(t, what, e, api.ErrForm, 2, api.ErrForm)
			blind(t, what, e)
		} else {
			state(t, what, e, api.OK, 1, api.ErrLong)
		}
	}
	e := wire.NewEye(nil)
	if e.Bool() {
		t.Error("Bool of no bytes: true")
	}
	state(t, "Bool of no bytes", e, api.ErrShort, 0, api.ErrShort)
}

// P1.2: Fail, End and Left of an eye that is well, step by step; asking them changes nothing.
func TestEyeEnd(t *testing.T) {
	for _, b := range [][]byte{nil, {}} {
		e := wire.NewEye(b)
		state(t, "no bytes", e, api.OK, 0, api.OK)
		if x := e.Num(1); x != 0 {
			t.Errorf("no bytes: Num(1): %d", x)
		}
		state(t, "no bytes, Num(1)", e, api.ErrShort, 0, api.ErrShort)
	}
	e := wire.NewEye([]byte{1, 0, 1, 'x', 0, 1, 9, 0, 4})
	state(t, "at first", e, api.OK, 9, api.ErrLong)
	if !e.Bool() {
		t.Error("Bool: false")
	}
	state(t, "behind Bool", e, api.OK, 8, api.ErrLong)
	if s := e.Text(1); s != "x" {
		t.Errorf("Text: %q", s)
	}
	state(t, "behind Text", e, api.OK, 5, api.ErrLong)
	if b := e.Raw(1); !bytes.Equal(b, []byte{9}) {
		t.Errorf("Raw: %v", b)
	}
	state(t, "behind Raw", e, api.OK, 2, api.ErrLong)
	if x := e.Num(2); x != 4 {
		t.Errorf("Num: %d", x)
	}
	state(t, "behind Num", e, api.OK, 0, api.OK)
}

// P1.2: the first failure stands, though others would have failed otherwise.
func TestEyeFailsForGood(t *testing.T) {
	failures := []struct {
		want api.Errno
		f    func(e *wire.Eye)
	}{
		{api.ErrArg, func(e *wire.Eye) { e.Num(0) }},
		{api.ErrArg, func(e *wire.Eye) { e.Raw(-1) }},
		{api.ErrArg, func(e *wire.Eye) { e.Text(-1) }},
		{api.ErrLong, func(e *wire.Eye) { e.Raw(1) }},
		{api.ErrLong, func(e *wire.Eye) { e.Text(0) }},
		{api.ErrShort, func(e *wire.Eye) { e.Num(7) }},
		{api.ErrShort, func(e *wire.Eye) { e.Raw(65535) }},
		{api.ErrForm, func(e *wire.Eye) { e.Bool() }},
	}
	for i, first := range failures {
		for j, second := range failures {
			e := wire.NewEye([]byte{8, 2, 9, 1, 1, 1})
			if x := e.Num(1); x != 8 {
				t.Fatalf("Num(1): %d", x)
			}
			first.f(e)
			second.f(e)
			what := fmt.Sprintf("failures %d, %d", i, j)
			state(t, what, e, first.want, 5, first.want)
			blind(t, what, e)
		}
	}
}

// R4, R5: an eye keeps nothing that it was handed, shares nothing that it answers, and knows of no other eye.
func TestEyeShares(t *testing.T) {
	room := []byte{0, 2, 1, 2, 0, 2, 3, 4, 70, 71}
	in := room[:8]
	e, other := wire.NewEye(in), wire.NewEye(in)
	clear(room)
	first := e.Raw(9)
	if !bytes.Equal(first, []byte{1, 2}) {
		t.Fatalf("bytes that were changed behind NewEye: %v", first)
	}
	whole := first[:cap(first)]
	for i := range whole {
		whole[i] = 99
	}
	_ = append(first[:2:2], 98, 98)
	second := e.Raw(9)
	if !bytes.Equal(second, []byte{3, 4}) {
		t.Errorf("an answer that was changed: %v behind it", second)
	}
	state(t, "the eye", e, api.OK, 0, api.OK)
	if !bytes.Equal(room, make([]byte, 10)) {
		t.Errorf("what was handed in was changed: %v", room)
	}
	state(t, "the other eye", other, api.OK, 8, api.ErrLong)
	if b := other.Raw(2); !bytes.Equal(b, []byte{1, 2}) {
		t.Errorf("the other eye: %v", b)
	}
	given := []byte{0, 1, 5, 60, 61, 62}
	x := wire.NewEye(given[:3])
	_ = append(x.Raw(1), 7, 7, 7)
	if !bytes.Equal(given, []byte{0, 1, 5, 60, 61, 62}) {
		t.Errorf("spare room of what was handed in was changed: %v", given)
	}
}

// R7: nil pens, nil eyes, and an eye that NewEye did not make.
func TestNone(t *testing.T) {
	var p *wire.Pen
	p.Num(1, 1)
	p.Num(-1, 0)
	p.Text("a")
	p.Raw(make([]byte, 70000))
	p.Raw(nil)
	p.Bool(true)
	if b, e := p.Bytes(); e != api.ErrDead || len(b) != 0 {
		t.Errorf("a nil pen: %v, %v, want ErrDead", b, e)
	}
	for what, e := range map[string]*wire.Eye{"a nil eye": nil, "an eye of nothing": {}} {
		state(t, what, e, api.ErrDead, 0, api.ErrDead)
		blind(t, what, e)
		state(t, what, e, api.ErrDead, 0, api.ErrDead)
	}
}

// thing is something that may be written, and read again.
type thing struct {
	kind, x, width int
	b              []byte
}

// things answers some of all kinds, numbers mostly at their ends.
func things(r *rand.Rand) []thing {
	var l []thing
	for range 1 + r.Intn(12) {
		w := 1 + r.Intn(7)
		x := []int{0, 1, top(w) / 2, top(w) - 1, top(w), r.Intn(top(w))}[r.Intn(6)]
		b := make([]byte, []int{0, 1, 2, 40, 255, 256, 300}[r.Intn(7)])
		r.Read(b)
		l = append(l, thing{r.Intn(4), x, w, b})
	}
	return l
}

// write writes it.
func (x thing) write(p *wire.Pen) {
	switch x.kind {
	case 0:
		p.Num(x.x, x.width)
	case 1:
		p.Text(string(x.b))
	case 2:
		p.Raw(x.b)
	case 3:
		p.Bool(x.x%2 == 1)
	}
}

// same reads one of that kind: is it it?
func (x thing) same(e *wire.Eye) bool {
	switch x.kind {
	case 0:
		return e.Num(x.width) == x.x
	case 1:
		return e.Text(len(x.b)) == string(x.b)
	case 2:
		return bytes.Equal(e.Raw(len(x.b)), x.b)
	}
	return e.Bool() == (x.x%2 == 1)
}

// P1.3: what was written is read, in that order; each shorter beginning is ErrShort; a longer one ErrLong at the end.
func TestWhatWasWrittenIsRead(t *testing.T) {
	r := rand.New(rand.NewSource(1))
	for range 300 {
		l := things(r)
		b, err := written(func(p *wire.Pen) {
			for _, x := range l {
				x.write(p)
			}
		})
		if err != api.OK {
			t.Fatalf("%v: %v", l, err)
		}
		e := wire.NewEye(b)
		for i, x := range l {
			if !x.same(e) {
				t.Fatalf("%v of %v: thing %d is not read", l, b, i)
			}
		}
		state(t, "all read", e, api.OK, 0, api.OK)
		for n := range b {
			shorter := wire.NewEye(b[:n])
			for _, x := range l {
				x.same(shorter)
			}
			if shorter.Fail() != api.ErrShort || shorter.End() != api.ErrShort {
				t.Fatalf("%d of %d bytes: Fail %v, End %v, want ErrShort", n, len(b), shorter.Fail(), shorter.End())
			}
		}
		longer := wire.NewEye(append(b, 0))
		for _, x := range l {
			x.same(longer)
		}
		state(t, "a byte more", longer, api.OK, 1, api.ErrLong)
	}
}

// P1.3 of a body that is just full: the longest Text and Raw that a pen writes.
func TestTheLongestIsRead(t *testing.T) {
	want := row(api.MaxBody - 2)
	for kind, read := range readings {
		b, err := written(func(p *wire.Pen) {
			if kind == "Text" {
				p.Text(string(want))
			} else {
				p.Raw(want)
			}
		})
		if err != api.OK || len(b) != api.MaxBody {
			t.Fatalf("%s: %d bytes, %v", kind, len(b), err)
		}
		e := wire.NewEye(b)
		if got := read(e, len(want)); !bytes.Equal(got, want) {
			t.Errorf("%s: %s, want %s", kind, short(got), short(want))
		}
		state(t, kind, e, api.OK, 0, api.OK)
		for _, n := range []int{0, 1, 2, 3, len(b) - 1} {
			e := wire.NewEye(b[:n])
			read(e, len(want))
			state(t, fmt.Sprintf("%s, %d bytes of it", kind, n), e, api.ErrShort, n, api.ErrShort)
		}
	}
}

// glance is what an eye over b, behind at bytes, should answer: told anew out of the chapter.
type glance struct {
	b    []byte
	at   int
	fail api.Errno
}

// number reads width bytes at at, if they are there.
func (g *glance) number(at, width int) (int, bool) {
	if at+width > len(g.b) {
		return 0, false
	}
	x := 0
	for _, c := range g.b[at : at+width] {
		x = x*256 + int(c)
	}
	return x, true
}

// read answers what a call of that kind should read, told as a text.
func (g *glance) read(kind, n int) string {
	if g.fail != api.OK {
		return "0"
	}
	if kind == 0 && (n < 1 || n > 7) || kind == 1 && n < 0 {
		g.fail = api.ErrArg
		return "0"
	}
	width := []int{n, 2, 1}[kind]
	x, there := g.number(g.at, width)
	switch {
	case !there:
		g.fail = api.ErrShort
	case kind == 1 && x > n:
		g.fail = api.ErrLong
	case kind == 1 && g.at+2+x > len(g.b):
		g.fail = api.ErrShort
	case kind == 2 && x > 1:
		g.fail = api.ErrForm
	case kind == 1:
		g.at += 2 + x
		return fmt.Sprint(len(g.b[g.at-x:g.at]), g.b[g.at-x:g.at])
	default:
		g.at += width
		return fmt.Sprint(x)
	}
	return "0"
}

// look has the eye do that call, and tells likewise what it read.
func look(e *wire.Eye, kind, n int, text bool) string {
	x := 0
	switch {
	case kind == 0:
		x = e.Num(n)
	case kind == 2 && e.Bool():
		x = 1
	case kind == 1:
		var b []byte
		if text {
			b = []byte(e.Text(n))
		} else {
			b = e.Raw(n)
		}
		if e.Fail() == api.OK {
			return fmt.Sprint(len(b), b)
		}
		x = len(b)
	}
	return fmt.Sprint(x)
}

// P1.2, R1: any calls over any bytes end, and answer what the chapter says.
func TestEyeOfAnyBytes(t *testing.T) {
	r := rand.New(rand.NewSource(2))
	for range 20000 {
		b := make([]byte, r.Intn(24))
		for i := range b {
			b[i] = byte(r.Intn(4))
		}
		e, g := wire.NewEye(b), &glance{b: b}
		for range 8 {
			kind, n, text := r.Intn(3), r.Intn(9), r.Intn(2) == 0
			switch r.Intn(8) {
			case 0:
				n = -n
			case 1:
				n = 300 + r.Intn(600)
			}
			want := g.read(kind, n)
			if got := look(e, kind, n, text); got != want {
				t.Fatalf("%v, kind %d of %d: %s, want %s", b, kind, n, got, want)
			}
			end := g.fail
			if end == api.OK && g.at < len(b) {
				end = api.ErrLong
			}
			state(t, fmt.Sprint(b), e, g.fail, len(b)-g.at, end)
		}
		if t.Failed() {
			return
		}
	}
}
