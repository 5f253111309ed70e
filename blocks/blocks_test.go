// Tests of chapter 11, by what package blocks exports alone: this file has the maps, bytes_test.go pointers and what is written and read.
package blocks_test

import (
	"fmt"
	"maps"
	"math"
	"math/rand"
	"slices"
	"testing"

	"pinstripe/api"
	"pinstripe/blocks"
	"pinstripe/wire"
)

// zero is the pointer of a block of noughts.
var zero api.Ptr

// ptr answers a pointer into a stripe of client 1, life 0.
func ptr(number, at, long int) api.Ptr {
	return api.Ptr{Stripe: api.Stripe{Client: 1, Number: number}, At: at, Len: long}
}

// Some pointers, no two of them alike; p, r and s have the same Len.
var (
	p = ptr(5, 0, 10)
	q = ptr(5, 10, 22)
	r = api.Ptr{Stripe: api.Stripe{Client: 4, Life: 3, Number: 0}, At: 77, Len: 10}
	s = ptr(6, 0, 10)
	u = api.Ptr{Stripe: api.Stripe{Client: 0, Life: 0, Number: 0}, At: 0, Len: 64}
)

func put(block, size int, to api.Ptr) api.Delta {
	return api.Delta{Do: api.Put, Ino: 2, Block: block, Size: size, To: to}
}

func cut(size int) api.Delta {
	return api.Delta{Do: api.Cut, Ino: 2, Size: size}
}

func move(block int, old, to api.Ptr) api.Delta {
	return api.Delta{Do: api.Move, Ino: 2, Block: block, Old: old, To: to}
}

// The model: the chapter told anew.

// model has a file's Size, and the pointers that are not zero, by block.
type model struct {
	size int
	at   map[int]api.Ptr
}

func newModel() model {
	return model{at: map[int]api.Ptr{}}
}

// count answers how many blocks there are: the fewest that have room for the Size.
func (m model) count() int {
	n := 0
	for n*64 < m.size {
		n++
	}
	return n
}

// ptrs answers the pointers that are not zero, by block.
func (m model) ptrs() []api.Ptr {
	l := []api.Ptr{}
	for block := range 64 {
		if x, ok := m.at[block]; ok {
			l = append(l, x)
		}
	}
	return l
}

// bytes answers what is written.
func (m model) bytes() string {
	b := num(m.size, 2)
	for block := range m.count() {
		b += form(m.at[block])
	}
	return b
}

// point makes x a block's pointer.
func (m model) point(block int, x api.Ptr) {
	m.at[block] = x
	if x == zero {
		delete(m.at, block)
	}
}

// after answers what a delta makes of the file, and whether it may be.
func (m model) after(d api.Delta) (model, bool) {
	c := model{m.size, maps.Clone(m.at)}
	switch d.Do {
	case 1: // Put
		if d.Block < 0 || d.Block > 63 || d.Size <= 64*d.Block || d.Size > 4096 || !may(d.To) {
			return m, false
		}
		c.size = max(m.size, d.Size)
		c.point(d.Block, d.To)
	case 2: // Cut
		if d.Size < 0 || d.Size > 4096 {
			return m, false
		}
		c.size = d.Size
		maps.DeleteFunc(c.at, func(block int, _ api.Ptr) bool { return block >= c.count() })
	case 3: // Move
		x, ok := m.at[d.Block]
		if !ok || x != d.Old || !may(d.To) || d.To.Len != x.Len {
			return m, false
		}
		c.point(d.Block, d.To)
	default:
		return m, false
	}
	return c, true
}

// apply does a delta: what is gone, and whether it was done.
func (m *model) apply(d api.Delta) ([]api.Ptr, bool) {
	c, ok := m.after(d)
	l := []api.Ptr{}
	for _, x := range m.ptrs() {
		if !slices.Contains(c.ptrs(), x) && !slices.Contains(l, x) {
			l = append(l, x)
		}
	}
	*m = c
	return l, ok
}

// Both are asked, and held against each other.

// pair is a map and what is to be told of it.
type pair struct {
	*blocks.Map
	m *model
}

func newPair() pair {
	m := newModel()
	return pair{blocks.New(), &m}
}

// clone answers both, apart.
func (x pair) clone() pair {
	m := *x.m // no call writes into its pointers
	return pair{x.Clone(), &m}
}

// applies does a delta.
func (x pair) applies(t *testing.T, d api.Delta) bool {
	t.Helper()
	ahead := *x.m
	l, ok := x.m.apply(d)
	if got, did := x.Apply(d); did != ok || !slices.Equal(got, l) {
		t.Fatalf("Apply(%v) to %v: %v, %v, want %v, %v", d, ahead, got, did, l, ok)
	}
	x.isRight(t, fmt.Sprint("behind ", d))
	return ok
}

// isRight holds all that can be asked of both against each other.
func (x pair) isRight(t *testing.T, what string) {
	t.Helper()
	if got := x.Size(); got != x.m.size {
		t.Fatalf("%s: Size %d, want %d", what, got, x.m.size)
	}
	if got := x.Count(); got != x.m.count() {
		t.Fatalf("%s: Count %d, want %d", what, got, x.m.count())
	}
	for block := -1; block <= 65; block++ {
		if got := x.At(block); got != x.m.at[block] {
			t.Fatalf("%s: At(%d) %v, want %v", what, block, got, x.m.at[block])
		}
	}
	if got := x.Ptrs(); !slices.Equal(got, x.m.ptrs()) {
		t.Fatalf("%s: Ptrs %v, want %v", what, got, x.m.ptrs())
	}
	if got := written(t, x.Map); got != x.m.bytes() {
		t.Fatalf("%s: %q is written, want %q", what, got, x.m.bytes())
	}
}

// written answers what a map writes.
func written(t *testing.T, m *blocks.Map) string {
	t.Helper()
	pen := &wire.Pen{}
	m.Write(pen)
	b, e := pen.Bytes()
	if e != api.OK {
		t.Fatalf("what is written: %v", e)
	}
	return string(b)
}

// made answers a map to which these deltas were done.
func made(t *testing.T, l ...api.Delta) pair {
	t.Helper()
	x := newPair()
	for _, d := range l {
		if !x.applies(t, d) {
			t.Fatalf("%v is not done", d)
		}
	}
	return x
}

// some is a map of five blocks: p, q, noughts, p, r.
func some(t *testing.T) pair {
	t.Helper()
	return made(t, put(0, 64, p), put(1, 128, q), put(3, 256, p), put(4, 300, r))
}

// wholeFile is a map of all blocks, each with a pointer of its own.
func wholeFile(t *testing.T) pair {
	t.Helper()
	x := newPair()
	for block := range 64 {
		x.applies(t, put(block, 64*block+64, ptr(block, block, 64)))
	}
	return x
}

// is looks at what a delta says was gone, and at whether it was done.
func is(t *testing.T, x *blocks.Map, d api.Delta, want bool, gone ...api.Ptr) {
	t.Helper()
	if l, ok := x.Apply(d); ok != want || !slices.Equal(l, gone) {
		t.Errorf("Apply(%v): %v, %v, want %v, %v", d, l, ok, gone, want)
	}
}

// has looks at a map's Size and at its first pointers, behind which there is none.
func has(t *testing.T, m *blocks.Map, size int, l ...api.Ptr) {
	t.Helper()
	if m.Size() != size {
		t.Errorf("Size %d, want %d", m.Size(), size)
	}
	for block := range 64 {
		want := zero
		if block < len(l) {
			want = l[block]
		}
		if got := m.At(block); got != want {
			t.Errorf("At(%d) %v, want %v", block, got, want)
		}
	}
}

func TestExamples(t *testing.T) {
	m := blocks.New()
	is(t, m, put(0, 10, p), true)
	is(t, m, put(2, 150, q), true)
	if m.Size() != 150 || m.Count() != 3 || m.At(1) != zero {
		t.Errorf("%d; %d; %v, want 150; 3; zero", m.Size(), m.Count(), m.At(1))
	}
	is(t, m, move(0, q, r), false)
	is(t, m, move(0, p, r), true, p)
	has(t, m, 150, r, zero, q)
}

func TestNew(t *testing.T) {
	m := blocks.New()
	if m.Size() != 0 || m.Count() != 0 || m.At(0) != zero || len(m.Ptrs()) != 0 || written(t, m) != "\x00\x00" {
		t.Errorf("a new map: %d, %d, %v, %v, %q", m.Size(), m.Count(), m.At(0), m.Ptrs(), written(t, m))
	}
	x, y := blocks.New(), blocks.New()
	x.Apply(put(0, 1, u))
	has(t, y, 0)
}

// Of each block: the least Size and the greatest, and one past either.
func TestPut(t *testing.T) {
	for block := range 64 {
		for _, l := range []struct {
			size int
			want bool
		}{
			{64 * block, false}, {64*block + 1, true}, {64*block + 64, true}, {64*block + 65, block < 63}, {4096, true}, {4097, false},
			{-1, false}, {0, false}, {1, block == 0}, {math.MaxInt, false}, {math.MinInt, false},
		} {
			x := newPair()
			if got := x.applies(t, put(block, l.size, p)); got != l.want {
				t.Errorf("Put block %d size %d: %v, want %v", block, l.size, got, l.want)
			}
		}
	}
}

// A block that there may not be is not put, whatever the Size.
func TestPutOfNoBlock(t *testing.T) {
	for _, block := range []int{-1, 64, 65, -64, 1 << 58, math.MaxInt, math.MinInt, math.MinInt / 64, math.MaxInt / 64} {
		for _, size := range []int{-64, -63, -1, 0, 1, 64, 4096, 4097, 4160, math.MaxInt, math.MinInt} {
			x := some(t)
			if x.applies(t, put(block, size, p)) {
				t.Errorf("Put block %d size %d is done", block, size)
			}
		}
	}
}

// The Size grows to a Put's, and never falls to it; a block may be put with a Size that is far behind it.
func TestPutSize(t *testing.T) {
	m := blocks.New()
	for _, l := range []struct{ block, size, want, count int }{
		{0, 1, 1, 1}, {0, 64, 64, 1}, {0, 5, 64, 1}, {1, 65, 65, 2}, {0, 64, 65, 2}, {1, 100, 100, 2}, {1, 99, 100, 2}, {0, 101, 101, 2},
		{0, 128, 128, 2}, {0, 129, 129, 3}, {3, 1000, 1000, 16}, {63, 4033, 4033, 64}, {0, 4096, 4096, 64}, {63, 4033, 4096, 64},
	} {
		if _, ok := m.Apply(put(l.block, l.size, p)); !ok || m.Size() != l.want || m.Count() != l.count {
			t.Errorf("Put block %d size %d: %v, Size %d, Count %d, want %d, %d", l.block, l.size, ok, m.Size(), m.Count(), l.want, l.count)
		}
	}
}

// Blocks between the old end and what is put, and behind that up to the Size, are noughts.
func TestBlocksBetween(t *testing.T) {
	x := made(t, put(0, 10, p), put(5, 600, q))
	has(t, x.Map, 600, p, zero, zero, zero, zero, q)
	x.applies(t, put(3, 200, r))
	has(t, x.Map, 600, p, zero, zero, r, zero, q)
	x.applies(t, put(63, 4033, s))
	has(t, x.Map, 4033, append(append([]api.Ptr{p, zero, zero, r, zero, q}, make([]api.Ptr, 57)...), s)...)
}

// A block that is put again has the new pointer, and the old one is gone.
func TestPutAgain(t *testing.T) {
	m := blocks.New()
	is(t, m, put(0, 10, p), true)
	is(t, m, put(0, 10, p), true)
	is(t, m, put(0, 10, q), true, p)
	is(t, m, put(0, 10, zero), true, q)
	is(t, m, put(0, 10, zero), true)
	has(t, m, 10)
	is(t, m, put(0, 10, p), true)
	is(t, m, put(1, 66, p), true)
	is(t, m, put(0, 10, r), true) // block 1 has p still
	is(t, m, put(1, 66, r), true, p)
	is(t, m, put(1, 66, zero), true)
	is(t, m, put(0, 10, zero), true, r)
	has(t, m, 66)
}

func TestCut(t *testing.T) {
	for _, l := range []struct {
		size int
		gone []api.Ptr
		has  []api.Ptr
	}{
		{0, []api.Ptr{p, q, r}, nil},
		{1, []api.Ptr{q, r}, []api.Ptr{p}},
		{63, []api.Ptr{q, r}, []api.Ptr{p}},
		{64, []api.Ptr{q, r}, []api.Ptr{p}},
		{65, []api.Ptr{r}, []api.Ptr{p, q}}, // block 0 has p still
		{100, []api.Ptr{r}, []api.Ptr{p, q}},
		{128, []api.Ptr{r}, []api.Ptr{p, q}},
		{129, []api.Ptr{r}, []api.Ptr{p, q}},
		{192, []api.Ptr{r}, []api.Ptr{p, q}},
		{193, []api.Ptr{r}, []api.Ptr{p, q, zero, p}},
		{256, []api.Ptr{r}, []api.Ptr{p, q, zero, p}},
		{257, nil, []api.Ptr{p, q, zero, p, r}},
		{299, nil, []api.Ptr{p, q, zero, p, r}},
		{300, nil, []api.Ptr{p, q, zero, p, r}},
		{301, nil, []api.Ptr{p, q, zero, p, r}},
		{4095, nil, []api.Ptr{p, q, zero, p, r}},
		{4096, nil, []api.Ptr{p, q, zero, p, r}},
	} {
		x := some(t)
		x.applies(t, cut(l.size))
		has(t, x.Map, l.size, l.has...)
		is(t, some(t).Map, cut(l.size), true, l.gone...)
	}
	for _, size := range []int{-1, 4097, -64, 65536, math.MaxInt, math.MinInt} {
		for _, m := range []pair{some(t), newPair()} {
			if m.applies(t, cut(size)) {
				t.Errorf("Cut size %d is done", size)
			}
		}
	}
}

// What was cut is noughts when the file grows again, by a Cut or by a Put, at once or step by step.
func TestCutAndGrow(t *testing.T) {
	for size := range 301 {
		for _, d := range []api.Delta{cut(300), cut(4096), put(4, 300, s), put(63, 4096, s), put(0, 300, s)} {
			x := some(t)
			x.applies(t, cut(size))
			x.applies(t, d)
			for block := (size + 63) / 64; block < 64; block++ {
				if got := x.At(block); got != zero && (d.Do != api.Put || block != d.Block) {
					t.Fatalf("Cut size %d, %v: At(%d) %v", size, d, block, got)
				}
			}
		}
		x := some(t)
		x.applies(t, cut(size))
		for next := size; next <= 300; next += 20 {
			x.applies(t, cut(next))
		}
	}
}

func TestMove(t *testing.T) {
	other := func(f func(x *api.Ptr)) api.Ptr {
		x := p
		f(&x)
		return x
	}
	for _, l := range []struct {
		what  string
		block int
		old   api.Ptr
		to    api.Ptr
		want  bool
	}{
		{"the first block", 0, p, r, true},
		{"one in the midst", 3, p, r, true},
		{"the last one", 4, r, p, true},
		{"to where it is", 0, p, p, true},
		{"to where it would be with others", 1, q, ptr(5, 0, 22), true},
		{"Old is another block's", 0, q, ptr(6, 0, 22), false},
		{"Old is another block's, To has what is there", 0, q, p, false},
		{"Old is nobody's", 0, s, r, false},
		{"Old is zero, the block has a pointer", 0, zero, p, false},
		{"Old is zero, To is zero", 0, zero, zero, false},
		{"a block of noughts, Old is zero", 2, zero, p, false},
		{"a block of noughts, all is zero", 2, zero, zero, false},
		{"a block of noughts", 2, p, r, false},
		{"a block that there is not", 5, p, r, false},
		{"a block that there is not, Old is zero", 5, zero, zero, false},
		{"a block that there is not, at the end", 63, p, r, false},
		{"a block that there may not be", 64, p, r, false},
		{"a block below 0", -1, p, r, false},
		{"a block far below", math.MinInt, p, r, false},
		{"a block far above", math.MaxInt, p, r, false},
		{"To has a lesser Len", 0, p, ptr(6, 0, 9), false},
		{"To has a greater Len", 0, p, ptr(6, 0, 11), false},
		{"To has a lesser Len, where Old is", 0, p, ptr(5, 0, 9), false},
		{"To is zero", 0, p, zero, false},
		{"To may not be", 0, p, ptr(-1, 0, 10), false},
		{"To reaches too far", 0, p, ptr(6, 5991, 10), false},
		{"To is as far as may be", 0, p, ptr(6, 5990, 10), true},
		{"Old has another Client", 0, other(func(x *api.Ptr) { x.Client++ }), r, false},
		{"Old has another Life", 0, other(func(x *api.Ptr) { x.Life++ }), r, false},
		{"Old has another Number", 0, other(func(x *api.Ptr) { x.Number++ }), r, false},
		{"Old has another At", 0, other(func(x *api.Ptr) { x.At++ }), r, false},
		{"Old has another Len", 0, other(func(x *api.Ptr) { x.Len++ }), r, false},
		{"Old and To have another Len", 0, other(func(x *api.Ptr) { x.Len++ }), ptr(6, 0, 11), false},
	} {
		x := some(t)
		if got := x.applies(t, move(l.block, l.old, l.to)); got != l.want {
			t.Errorf("%s: %v, want %v", l.what, got, l.want)
		}
	}
}

// What is gone by a Move: Old, unless another block has it; never To.
func TestGoneByMove(t *testing.T) {
	m := some(t).Map
	is(t, m, move(0, p, p), true)
	is(t, m, move(0, p, s), true) // block 3 has p still
	is(t, m, move(3, p, s), true, p)
	is(t, m, move(4, r, s), true, r)
	has(t, m, 300, s, q, zero, s, s)
	is(t, m, move(0, s, s), true)
	is(t, m, move(0, s, p), true)
	is(t, m, move(3, s, p), true)
	is(t, m, move(4, s, p), true, s)
}

// What is gone, each once, by the first block that had it, where several blocks had the same pointer.
func TestGone(t *testing.T) {
	l := []api.Ptr{p, q, zero, r, q, p, s, r, u, p, s}
	for size := range 64*len(l) + 1 {
		m := blocks.New()
		for block, x := range l {
			m.Apply(put(block, 64*len(l), x))
		}
		left := l[:(size+63)/64]
		gone := []api.Ptr{}
		for _, x := range []api.Ptr{p, q, r, s, u} { // they stand first in this order
			if !slices.Contains(left, x) {
				gone = append(gone, x)
			}
		}
		is(t, m, cut(size), true, gone...)
	}
}

// The order is that of the first block that had it, not of the one by which it went last.
func TestGoneInOrder(t *testing.T) {
	m := blocks.New()
	for block, x := range []api.Ptr{s, p, q, q, p} {
		m.Apply(put(block, 320, x))
	}
	is(t, m.Clone(), cut(64), true, p, q)
	is(t, m.Clone(), cut(128), true, q)
	is(t, m.Clone(), cut(0), true, s, p, q)
	n := blocks.New()
	for block, x := range []api.Ptr{s, p, q, q, p} {
		n.Apply(put(4-block, 320, x))
	}
	is(t, n, cut(0), true, p, q, s)
	full := wholeFile(t)
	want := full.Ptrs()
	if l, ok := full.Apply(cut(0)); !ok || !slices.Equal(l, want) || len(l) != 64 {
		t.Errorf("a file of all blocks, cut: %v, %v", l, ok)
	}
}

// P11.3: a Move behind a Put of the same block, in whatever order the two come, leaves what was Put.
func TestMoveAndPut(t *testing.T) {
	to := []api.Ptr{p, q, r, s, u, zero}
	for _, old := range to {
		for _, moved := range to {
			for _, was := range to {
				aPut, aMove := put(1, 100, was), move(1, old, moved)
				x := made(t, put(1, 100, old))
				x.applies(t, aPut)
				done := x.applies(t, aMove)
				if done != (was == old && old != zero && old.Len == moved.Len) {
					t.Fatalf("%v behind %v: %v", aMove, aPut, done)
				}
				if got := x.At(1); got != was && was != old {
					t.Fatalf("%v behind %v: %v", aMove, aPut, got)
				}
				x = made(t, put(1, 100, old))
				x.applies(t, aMove)
				x.applies(t, aPut)
				if got := x.At(1); got != was {
					t.Fatalf("%v ahead of %v: %v", aMove, aPut, got)
				}
			}
		}
	}
}

// A Move behind a Cut does nothing to what is no more, though the file has grown again.
func TestMoveBehindCut(t *testing.T) {
	x := some(t)
	x.applies(t, cut(0))
	for _, size := range []int{0, 64, 300, 4096} {
		x.applies(t, cut(size))
		for block, old := range []api.Ptr{p, q, zero, p, r} {
			if x.applies(t, move(block, old, old)) {
				t.Errorf("size %d: a Move of block %d is done", size, block)
			}
		}
	}
}

// A delta that does what there is not is not done.
func TestNoSuchDelta(t *testing.T) {
	for _, do := range []int{-1, 0, 4, 5, 255, 256, 257, 258, 259, math.MaxInt, math.MinInt} {
		for _, d := range []api.Delta{put(0, 64, s), cut(0), move(0, p, r), {}} {
			d.Do = do
			if some(t).applies(t, d) {
				t.Errorf("%v is done", d)
			}
		}
	}
}

// What a delta's kind does not ask for is not looked at, be it what it may.
func TestWhatIsNotAsked(t *testing.T) {
	no := api.Ptr{Stripe: api.Stripe{Client: -1, Life: -1, Number: math.MaxInt}, At: math.MinInt, Len: 65}
	for _, x := range []int{0, 1, -1, 129, math.MaxInt, math.MinInt} {
		for _, d := range []api.Delta{
			{Do: api.Put, Ino: x, Block: 1, Size: 70, To: s, Old: no},
			{Do: api.Cut, Ino: x, Block: x, Size: 70, To: no, Old: no},
			{Do: api.Move, Ino: x, Block: 3, Size: x, To: s, Old: p},
		} {
			if !some(t).applies(t, d) {
				t.Errorf("%v is not done", d)
			}
		}
	}
}

// A block is as it was, whatever is refused; numbers at their ends are not taken for others.
func TestAnyNumbers(t *testing.T) {
	l := []int{math.MinInt, math.MinInt + 1, -4097, -65, -64, -1, 0, 1, 2, 63, 64, 65, 4096, 4097, 65536, math.MaxInt - 1, math.MaxInt}
	x := some(t)
	for do := -1; do <= 4; do++ {
		for _, block := range l {
			for _, size := range l {
				x.applies(t, api.Delta{Do: do, Block: block, Size: size, To: s, Old: p})
				x.applies(t, api.Delta{Do: do, Block: block, Size: size, To: api.Ptr{At: size, Len: block}, Old: r})
				x.applies(t, api.Delta{Do: do, Block: block, Size: size, To: api.Ptr{At: block, Len: size}, Old: zero})
			}
		}
	}
}

// A pointer that may not be is neither Put nor what a block is Moved to.
func TestToMayNotBe(t *testing.T) {
	for _, to := range strange() {
		if x := some(t); x.applies(t, put(0, 10, to)) {
			t.Errorf("Put to %v is done", to)
		}
		if x := some(t); x.applies(t, move(0, p, to)) {
			t.Errorf("Move to %v is done", to)
		}
	}
	for _, to := range usual() {
		if x := some(t); !x.applies(t, put(0, 10, to)) {
			t.Errorf("Put to %v is not done", to)
		}
		from := ptr(9, 9, max(1, to.Len))
		if x := made(t, put(0, 10, from)); x.applies(t, move(0, from, to)) != (to != zero) {
			t.Errorf("Move to %v", to)
		}
	}
}

func TestAt(t *testing.T) {
	x := wholeFile(t)
	for block := range 64 {
		if got := x.At(block); got != ptr(block, block, 64) {
			t.Errorf("At(%d) %v", block, got)
		}
	}
	for _, block := range []int{-1, 64, 65, -64, math.MaxInt, math.MinInt} {
		for _, m := range []pair{x, some(t), newPair()} {
			if got := m.At(block); got != zero {
				t.Errorf("At(%d) %v, want the zero one", block, got)
			}
		}
	}
}

func TestCount(t *testing.T) {
	m := blocks.New()
	for _, l := range []struct{ size, want int }{{0, 0}, {1, 1}, {63, 1}, {64, 1}, {65, 2}, {128, 2}, {129, 3}, {4032, 63}, {4033, 64}, {4095, 64}, {4096, 64}, {64, 1}, {0, 0}} {
		m.Apply(cut(l.size))
		if got := m.Count(); got != l.want {
			t.Errorf("Count of %d bytes: %d, want %d", l.size, got, l.want)
		}
	}
}

// Ptrs has a pointer as often as blocks have it.
func TestPtrs(t *testing.T) {
	if got := some(t).Ptrs(); !slices.Equal(got, []api.Ptr{p, q, p, r}) {
		t.Errorf("Ptrs %v", got)
	}
	if got := made(t, cut(4096)).Ptrs(); len(got) != 0 {
		t.Errorf("Ptrs of noughts %v", got)
	}
	if got := wholeFile(t).Ptrs(); len(got) != 64 || got[0] != ptr(0, 0, 64) || got[63] != ptr(63, 63, 64) {
		t.Errorf("Ptrs of all blocks %v", got)
	}
}

// kinds answers a delta of each kind, such as are done to some.
func kinds() map[string]api.Delta {
	return map[string]api.Delta{
		"Put":               put(1, 100, u),
		"Put of noughts":    put(0, 1, zero),
		"Put at the end":    put(5, 321, s),
		"Put far behind":    put(63, 4096, s),
		"Cut to nothing":    cut(0),
		"Cut in the midst":  cut(130),
		"Cut a byte":        cut(299),
		"Cut that grows":    cut(1000),
		"Move":              move(0, p, r),
		"Move of another":   move(4, r, s),
		"Move that is none": move(1, p, r),
	}
}

// A clone hears of nothing, and tells nothing; nor does a clone of a clone, one of a map that was cut, or a copy.
func TestClone(t *testing.T) {
	for name, first := range kinds() {
		for other, second := range kinds() {
			a := some(t)
			b := a.clone()
			a.applies(t, first)
			b.isRight(t, "a clone behind "+name)
			c := a.clone()
			b.applies(t, second)
			a.isRight(t, "a map whose clone had "+other)
			c.applies(t, second)
			a.isRight(t, "a map whose second clone had "+other)
			a.applies(t, second)
			b.isRight(t, "a clone, at the end")
			c.isRight(t, "another clone, at the end")
			d := c.clone()
			c.applies(t, first)
			d.isRight(t, "a clone of a clone")
		}
	}
	a := some(t)
	was := *a.Map
	b := pair{&was, a.clone().m}
	for _, d := range []api.Delta{put(1, 100, u), cut(70), cut(4096), put(4, 300, s), put(63, 4096, u), move(1, u, ptr(0, 0, 64))} {
		a.applies(t, d)
		b.isRight(t, "a copy")
	}
}

// Two clones that grow from where both were cut do not write over each other.
func TestClonesThatGrow(t *testing.T) {
	for _, size := range []int{0, 64, 128, 130, 256} {
		a := some(t)
		kept := a.clone()
		a.applies(t, cut(size))
		b := a.clone()
		for block := range 8 {
			a.applies(t, put(block, 64*block+1, ptr(100+block, 0, 10)))
			b.applies(t, put(block, 64*block+1, ptr(200+block, 0, 10)))
			a.isRight(t, "the one")
			b.isRight(t, "the other")
			kept.isRight(t, "the one that was not cut")
		}
	}
}

// R7: a map that is nil, or that no call made.
func TestMapsThatNoCallMade(t *testing.T) {
	for name, m := range map[string]*blocks.Map{"nil": nil, "no call's": {}} {
		for range 2 {
			for _, d := range []api.Delta{put(0, 10, p), cut(0), cut(100), move(0, p, r), move(0, zero, zero), {}} {
				is(t, m, d, false)
			}
			if m.Size() != 0 || m.Count() != 0 || m.At(0) != zero || m.At(-1) != zero || len(m.Ptrs()) != 0 || m.Clone() != nil {
				t.Errorf("%s: %d, %d, %v, %v, %v", name, m.Size(), m.Count(), m.At(0), m.Ptrs(), m.Clone())
			}
			if got := written(t, m); got != "" {
				t.Errorf("%s: %q is written", name, got)
			}
			m.Write(nil)
		}
	}
}

// fill writes into a list and into its spare room.
func fill(l []api.Ptr) {
	l = l[:cap(l)]
	for i := range l {
		l[i] = ptr(999, 9, 9)
	}
}

// R4: a list that is answered is new memory, spare room too.
func TestAnswersAreNewMemory(t *testing.T) {
	x := some(t)
	one, two := x.Ptrs(), x.Ptrs()
	fill(one)
	if !slices.Equal(two, x.m.ptrs()) {
		t.Errorf("a write into what Ptrs answered shows in another answer: %v", two)
	}
	fill(two)
	x.isRight(t, "behind a write into what Ptrs answered")
	full := wholeFile(t)
	fill(full.Ptrs())
	full.isRight(t, "behind a write into what Ptrs of all blocks answered")
	for name, d := range kinds() {
		x, y := some(t), some(t)
		c := x.clone()
		l, _ := x.Apply(d)
		fill(l)
		y.Apply(d)
		if got, want := written(t, x.Map), written(t, y.Map); got != want {
			t.Errorf("%s: a write into what Apply answered: %q, want %q", name, got, want)
		}
		c.isRight(t, name+": a clone behind a write into what Apply answered")
	}
}

// few answers deltas such as meet one another.
func few() []api.Delta {
	return []api.Delta{
		put(0, 1, p), put(0, 65, q), put(1, 128, p), put(1, 65, zero), put(2, 129, q), put(2, 200, s), put(0, 64, ptr(5, 0, 65)), put(1, 64, p),
		cut(0), cut(1), cut(64), cut(65), cut(128), cut(192), cut(4096), cut(4097),
		move(0, p, s), move(0, s, p), move(1, p, s), move(1, p, q), move(2, s, p), move(2, q, ptr(7, 7, 22)), move(0, zero, p),
	}
}

// All rows of three such deltas, each from a clone on: held against the model.
func TestAllShortRows(t *testing.T) {
	a := newPair()
	for _, one := range few() {
		b := a.clone()
		b.applies(t, one)
		for _, two := range few() {
			c := b.clone()
			c.applies(t, two)
			for _, three := range few() {
				c.clone().applies(t, three)
			}
		}
		b.isRight(t, "behind its clones")
	}
	a.isRight(t, "behind its clones")
}

// anyDelta answers a delta of any kind, most of them such as may be done.
func anyDelta(g *rand.Rand, x pair) api.Delta {
	to := ptr(g.Intn(6), g.Intn(2), 10)
	block := g.Intn(12)
	if g.Intn(20) == 0 {
		block = g.Intn(70) - 3
	}
	switch g.Intn(9) {
	case 0, 1, 2:
		return put(block, 64*block+g.Intn(66), to)
	case 3:
		return put(block, 64*block+1, zero)
	case 4:
		return cut(g.Intn(900) - 10)
	case 5:
		return cut(x.Size() + g.Intn(100) - 80)
	case 6:
		return move(block, ptr(g.Intn(6), g.Intn(2), 10), to)
	default:
		return move(block, x.At(block), to)
	}
}

// Long rows of any deltas: held against the model, clones too.
func TestLongRows(t *testing.T) {
	g := rand.New(rand.NewSource(11))
	done := map[int]int{}
	for range 60 {
		x := newPair()
		kept := x.clone()
		for i := range 200 {
			d := anyDelta(g, x)
			if x.applies(t, d) {
				done[d.Do]++
			}
			if i%10 == 0 {
				kept.isRight(t, "a clone")
				kept = x.clone()
			}
		}
	}
	for _, do := range []int{api.Put, api.Cut, api.Move} {
		if done[do] < 500 {
			t.Errorf("%d of kind %d are done: too few to tell anything", done[do], do)
		}
	}
}
