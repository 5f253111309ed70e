// What chapter 18 says, told anew, of bytes alone: what the tests hold the journal against.
package journal_test

import (
	"bytes"
	"slices"

	"pinstripe/api"
)

const (
	sector = api.Sector
	last   = 1<<40 - 1 // generation
	most   = 4160      // sectors of a disk
)

// said is what a head says.
type said struct{ generation, half, end int }

// kept is what a journal keeps: how many sectors its disk has, which head counts, what that says, and the records.
type kept struct {
	sectors, at int
	head        said
	records     [][]byte
}

// op is what a disk was asked: a Write, or a Sync, which has no bytes.
type op struct {
	at int
	b  []byte
}

// sync is a Sync.
var sync = op{}

// call is what a journal is asked: an Append, or a Reset.
type call struct {
	reset bool
	b     []byte
}

// filled answers b, and noughts to the end of its last sector.
func filled(b []byte) []byte {
	return append(slices.Clone(b), make([]byte, -len(b)&(sector-1))...)
}

// headOf answers a head's sector.
func headOf(h said) []byte {
	g, e := h.generation, h.end
	return filled([]byte{1, byte(g >> 32), byte(g >> 24), byte(g >> 16), byte(g >> 8), byte(g), byte(h.half), byte(e >> 16), byte(e >> 8), byte(e)})
}

// recordOf answers a record's sectors.
func recordOf(b []byte) []byte {
	n := len(b)
	return filled(append([]byte{byte(n >> 16), byte(n >> 8), byte(n)}, b...))
}

// recordsOf answers the sectors of records, one behind the other.
func recordsOf(records ...[]byte) []byte {
	var l []byte
	for _, b := range records {
		l = append(l, recordOf(b)...)
	}
	return l
}

// half answers how many sectors a half has.
func half(sectors int) int {
	return (sectors - 2) / 2
}

// imageOf answers a disk's image: two heads, and what each half begins with; noughts are the rest.
func imageOf(sectors int, first, second, one, two []byte) []byte {
	image := make([]byte, sectors*sector)
	copy(image, first)
	copy(image[sector:], second)
	copy(image[2*sector:], one)
	copy(image[(2+half(sectors))*sector:], two)
	return image
}

// empty answers what a journal keeps that was just formatted.
func empty(sectors int) kept {
	return kept{sectors: sectors, head: said{generation: 1}}
}

// room answers how many bytes still fit.
func (k kept) room() int {
	left := half(k.sectors) - k.head.end
	switch {
	case left == 0:
		return 0
	case left*sector-3 > api.MaxBody:
		return api.MaxBody
	}
	return left*sector - 3
}

// formats answers what a disk is asked in a Format.
func formats() []op {
	return []op{{1, filled([]byte{0})}, {0, headOf(said{1, 0, 0})}, sync}
}

// asked answers what a disk that is well is asked in a call, what is kept then, and the call's answer.
func (k kept) asked(c call) ([]op, kept, api.Errno) {
	to, from, ahead := k.head, k.head.end, k.records
	if c.reset {
		to.half, from, ahead = 1-to.half, 0, nil
	}
	var ops []op
	for part := range slices.Chunk(recordOf(c.b), sector) {
		ops = append(ops, op{2 + to.half*half(k.sectors) + from + len(ops), part})
	}
	to.generation, to.end = to.generation+1, from+len(ops)
	switch {
	case len(c.b) > api.MaxBody:
		return nil, k, api.ErrLong
	case to.end > half(k.sectors), to.generation > last:
		return nil, k, api.ErrFull
	}
	ops = append(ops, sync, op{1 - k.at, headOf(to)}, sync)
	return ops, kept{k.sectors, 1 - k.at, to, append(slices.Clone(ahead), slices.Clone(c.b))}, api.OK
}

// reads answers what the journal keeps that is in an image.
func reads(image []byte) (kept, api.Errno) {
	k := kept{sectors: len(image) / sector}
	one, two := readHead(k.sectors, image[:sector]), readHead(k.sectors, image[sector:2*sector])
	switch {
	case one.generation == two.generation:
		return kept{}, api.ErrForm
	case one.generation > two.generation:
		k.head = one
	default:
		k.at, k.head = 1, two
	}
	rest := image[(2+k.head.half*half(k.sectors))*sector:]
	rest = rest[:k.head.end*sector]
	for len(rest) > 0 {
		n := int(rest[0])<<16 + int(rest[1])<<8 + int(rest[2])
		if n+3 > len(rest) {
			return kept{}, api.ErrForm
		}
		k.records = append(k.records, rest[3:n+3])
		rest = rest[(n+66)/sector*sector:]
	}
	return k, api.OK
}

// readHead answers what a head says; the zero value, if it is none.
func readHead(sectors int, b []byte) said {
	g, h, e := 0, int(b[6]), int(b[7])<<16+int(b[8])<<8+int(b[9])
	for _, x := range b[1:6] {
		g = g*256 + int(x)
	}
	if b[0] != 1 || g == 0 || h > 1 || e > half(sectors) || len(bytes.Trim(b[10:], "\x00")) > 0 {
		return said{}
	}
	return said{g, h, e}
}

// split answers the ops that last when op n kills, and the writes that may be left: those behind the last Sync, and op n, if it is one.
func split(ops []op, n int) (sure, loose []op) {
	at := 0
	for i, o := range ops[:n] {
		if o.b == nil {
			at = i + 1
		}
	}
	if ops[n].b != nil {
		n++
	}
	return ops[:at], ops[at:n]
}

// done answers an image on which the ops were done.
func done(image []byte, ops []op) []byte {
	image = slices.Clone(image)
	for _, o := range ops {
		copy(image[o.at*sector:], o.b)
	}
	return image
}

// left answers the image that is left of one when op n kills: of the writes that may be left, those whose bit choice has.
func left(image []byte, ops []op, n, choice int) []byte {
	sure, loose := split(ops, n)
	image = done(image, sure)
	for i, o := range loose {
		if choice>>i&1 == 1 {
			image = done(image, []op{o})
		}
	}
	return image
}

// choices answers how many choices there are of what is left when op n kills.
func choices(ops []op, n int) int {
	_, loose := split(ops, n)
	return 1 << len(loose)
}

// bitsOf answers a choice as a disk takes it.
func bitsOf(choice int) []byte {
	b := make([]byte, 20)
	for i := range b {
		b[i] = byte(choice >> i & 1)
	}
	return b
}
