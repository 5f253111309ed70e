// Package wire writes numbers and bytes in a row, and reads them again: see DOC.md, chapter 1.
package wire

import (
	"bytes"

	"pinstripe/api"
)

const (
	maxWidth   = 7 // bytes of a number
	countWidth = 2 // bytes that tell how many bytes of a Text or a Raw follow
	maxCount   = 1<<(8*countWidth) - 1
)

// Pen writes things one behind the other. Its zero value has no bytes. It is used by its pointer: a copy would share its bytes.
type Pen struct {
	row  []byte
	fail api.Errno
}

// Num writes x in width bytes, the highest first.
func (p *Pen) Num(x, width int) {
	if width < 1 || width > maxWidth || x < 0 || x>>(8*width) != 0 {
		p.giveUp(api.ErrArg)
		return
	}
	var b [maxWidth]byte
	for i := range width {
		b[i] = byte(x >> (8 * (width - 1 - i)))
	}
	p.add(b[:width])
}

// Text writes how many bytes s has, and they.
func (p *Pen) Text(s string) {
	p.Raw([]byte(s))
}

// Raw writes how many bytes b has, and they.
func (p *Pen) Raw(b []byte) {
	if len(b) > maxCount {
		p.giveUp(api.ErrLong)
		return
	}
	p.Num(len(b), countWidth)
	p.add(b)
}

// Bool writes 1 or 0.
func (p *Pen) Bool(b bool) {
	x := 0
	if b {
		x = 1
	}
	p.Num(x, 1)
}

// Bytes answers all that was written; or none, and why the pen failed.
func (p *Pen) Bytes() ([]byte, api.Errno) {
	if p == nil {
		return nil, api.ErrDead
	}
	if p.fail != api.OK {
		return nil, p.fail
	}
	return bytes.Clone(p.row), api.OK
}

// add puts b behind what is written, as far as the pen has not failed.
func (p *Pen) add(b []byte) {
	if p == nil || p.fail != api.OK {
		return
	}
	if len(b) > api.MaxBody-len(p.row) {
		p.giveUp(api.ErrLong)
		return
	}
	p.row = append(p.row, b...)
}

// giveUp makes the pen fail. The first failure stands; no bytes are kept, as none are ever answered from there on.
func (p *Pen) giveUp(why api.Errno) {
	if p != nil && p.fail == api.OK {
		p.row, p.fail = nil, why
	}
}

// Eye reads what a Pen wrote, in the same order.
type Eye struct {
	rest []byte // what is still to be read
	fail api.Errno
	made bool // by NewEye
}

// NewEye answers an eye that reads b from its beginning on.
func NewEye(b []byte) *Eye {
	return &Eye{rest: bytes.Clone(b), made: true}
}

// Num reads a number of width bytes, the highest first.
func (e *Eye) Num(width int) int {
	return attempt(e, func() int { return e.number(width) })
}

// Text reads how many bytes there are, at most so many, and they.
func (e *Eye) Text(most int) string {
	return attempt(e, func() string { return string(e.counted(most)) })
}

// Raw reads how many bytes there are, at most so many, and they.
func (e *Eye) Raw(most int) []byte {
	return attempt(e, func() []byte { return bytes.Clone(e.counted(most)) })
}

// Bool reads 1 or 0.
func (e *Eye) Bool() bool {
	return attempt(e, e.truth)
}

// Fail answers why the eye failed; OK, if it did not.
func (e *Eye) Fail() api.Errno {
	if e == nil || !e.made {
		return api.ErrDead
	}
	return e.fail
}

// End answers Fail; ErrLong, if there are bytes left.
func (e *Eye) End() api.Errno {
	why := e.Fail()
	if why == api.OK && e.Left() > 0 {
		return api.ErrLong
	}
	return why
}

// Left answers how many bytes are still to be read.
func (e *Eye) Left() int {
	if e == nil {
		return 0
	}
	return len(e.rest)
}

// attempt has read read on, unless the eye has failed. If read gives up, the eye has failed, and stands where it stood ahead of it.
func attempt[T any](e *Eye, read func() T) (got T) {
	if e.Fail() != api.OK {
		return got
	}
	ahead := e.rest
	defer func() {
		if why, ok := recover().(api.Errno); ok {
			e.rest, e.fail = ahead, why
		}
	}()
	return read()
}

// number reads a number, or gives up.
func (e *Eye) number(width int) int {
	if width < 1 || width > maxWidth {
		panic(api.ErrArg)
	}
	x := 0
	for _, b := range e.take(width) {
		x = x<<8 | int(b)
	}
	return x
}

// counted reads how many bytes there are, and they, or gives up.
func (e *Eye) counted(most int) []byte {
	if most < 0 {
		panic(api.ErrArg)
	}
	n := e.number(countWidth)
	if n > most {
		panic(api.ErrLong)
	}
	return e.take(n)
}

// truth reads a bool, or gives up.
func (e *Eye) truth() bool {
	x := e.number(1)
	if x > 1 {
		panic(api.ErrForm)
	}
	return x == 1
}

// take cuts off the next n bytes, or gives up.
func (e *Eye) take(n int) []byte {
	if n > len(e.rest) {
		panic(api.ErrShort)
	}
	b := e.rest[:n]
	e.rest = e.rest[n:]
	return b
}
