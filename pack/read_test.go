// Tests of what the deltas and the stripes say together: what a file's map and the stripes' bytes are behind them.
package pack_test

import (
	"fmt"
	"math/rand"
	"slices"
	"strings"
	"testing"

	"pinstripe/api"
	"pinstripe/blocks"
	"pinstripe/layout"
	"pinstripe/pack"
)

// file is a file as it was stored: its map, and the bytes of all stripes that were written.
type file struct {
	m       *blocks.Map
	stripes map[api.Stripe]string
}

func newFile() *file {
	return &file{blocks.New(), map[api.Stripe]string{}}
}

// block answers a block's 64 bytes.
func (f *file) block(t *testing.T, i int) string {
	t.Helper()
	b, x := "", f.m.At(i)
	if x != zero {
		if b = f.stripes[x.Stripe]; x.At+x.Len > len(b) {
			t.Fatalf("block %d: %v points at nothing", i, x)
		}
		b = b[x.At : x.At+x.Len]
	}
	return b + strings.Repeat("\x00", 64-len(b))
}

// store packs changed blocks, writes the stripes over n servers, of which one goes, and applies the deltas.
func (f *file) store(t *testing.T, a asked, gone int) {
	t.Helper()
	l, deltas, why := a.pack()
	if why != api.OK {
		t.Fatalf("Pack of %v: %v", a, why)
	}
	for _, x := range l {
		if _, there := f.stripes[x.Stripe]; there {
			t.Fatalf("Pack of %v: %v is there already", a, x.Stripe)
		}
		f.stripes[x.Stripe] = kept(t, x, a.n, gone)
	}
	for _, d := range deltas {
		if _, ok := f.m.Apply(d); !ok || d.Ino != a.ino {
			t.Fatalf("Pack of %v: %v can't be done", a, d)
		}
	}
}

// kept answers what is read of a stripe that was cut over n servers, of which one is gone.
func kept(t *testing.T, x pack.Full, n, gone int) string {
	t.Helper()
	frags, why := layout.Cut(x.Stripe, x.Data, n)
	if why != api.OK {
		t.Fatalf("Cut of %v over %d: %v", x, n, why)
	}
	frags[gone%n] = nil
	b, why := layout.Join(x.Stripe, frags, n)
	if why != api.OK || string(b) != string(x.Data) {
		t.Fatalf("Join of %v over %d: %q, %v", x, n, b, why)
	}
	return string(b)
}

// plain is a file as it is meant: its size, and each of its blocks' 64 bytes.
type plain struct {
	size   int
	blocks [64]string
}

func newPlain() *plain {
	p := &plain{}
	p.clear(0)
	return p
}

// clear makes noughts of all blocks from one on.
func (p *plain) clear(from int) {
	for i := from; i < 64; i++ {
		p.blocks[i] = strings.Repeat("\x00", 64)
	}
}

// change makes the file so long, and its blocks those bytes.
func (p *plain) change(size int, l []pack.Dirty) {
	for _, d := range l {
		p.blocks[d.Block] = string(d.B) + strings.Repeat("\x00", 64-len(d.B))
	}
	p.size = size
	p.clear((size + 63) / 64)
}

// isRead holds a file as it was stored against what it is meant to be.
func isRead(t *testing.T, what string, f *file, p *plain) {
	t.Helper()
	if f.m.Size() != p.size {
		t.Fatalf("%s: %d bytes, want %d", what, f.m.Size(), p.size)
	}
	for i := range 64 {
		if got := f.block(t, i); got != p.blocks[i] {
			t.Fatalf("%s: block %d is %q, want %q", what, i, got, p.blocks[i])
		}
	}
}

// P14.2 of one Pack of each kind of bytes, over each number of servers, with each one gone.
func TestReadOfPacked(t *testing.T) {
	x := strings.Repeat("\x00", 63) + "x"
	for n := 3; n <= 16; n++ {
		for what, l := range map[string][]pack.Dirty{
			"none": nil, "one": {dirty(5, "ab\x00")}, "full blocks": rows(slices.Repeat([]int{64}, 64)...), "short ones": rows(slices.Repeat([]int{50}, 64)...),
			"noughts ahead": {dirty(0, x), dirty(1, "\x00a"), dirty(63, x)}, "noughts between": {dirty(0, "a\x00\x00b"), dirty(2, "a\x00b\x00")}, "noughts alone": {dirty(0, noughts), dirty(1, ""), dirty(7, strings.Repeat("\x00", 64))},
		} {
			for gone := range n {
				f, p := newFile(), newPlain()
				f.store(t, asked{9, 4096, seven, n, l}, gone)
				p.change(4096, l)
				isRead(t, fmt.Sprint(what, " over ", n, " without ", gone), f, p)
			}
		}
	}
}

// A file that was longer, or shorter, or had other bytes: the blocks that were not changed stay, as far as the size goes.
func TestReadOfPackedAgain(t *testing.T) {
	for _, was := range []int{0, 1, 64, 65, 300, 4096} {
		for _, size := range []int{0, 1, 63, 64, 65, 128, 129, 300, 4095, 4096} {
			for _, l := range [][]pack.Dirty{nil, {dirty(0, "new")}, {dirty(0, "")}, {dirty(1, noughts), dirty(4, "new")}, {dirty(2, "new\x00"), dirty(63, "new")}} {
				l = slices.DeleteFunc(slices.Clone(l), func(d pack.Dirty) bool { return d.Block*64 >= size })
				f, p := newFile(), newPlain()
				old := rows(slices.Repeat([]int{64}, (was+63)/64)...)
				f.store(t, asked{9, was, stripe(2, 0, 0), 4, old}, 0)
				p.change(was, old)
				f.store(t, asked{9, size, seven, 3, l}, 1)
				p.change(size, l)
				isRead(t, fmt.Sprint(was, " bytes, then ", size, " and ", len(l), " blocks"), f, p)
			}
		}
	}
}

// Long rows of any changes, each with the Numbers behind the last one's.
func TestReadOfAnyChanges(t *testing.T) {
	dice := rand.New(rand.NewSource(14))
	for range 60 {
		f, p := newFile(), newPlain()
		next, n := stripe(dice.Intn(5), dice.Intn(9), dice.Intn(9)), 3+dice.Intn(14)
		for round := range 20 {
			size, l := anyChange(dice)
			a := asked{2, size, next, n, l}
			isTold(t, "any", a)
			f.store(t, a, dice.Intn(n))
			p.change(size, l)
			isRead(t, fmt.Sprint("round ", round), f, p)
			next.Number += len(f.stripes)
		}
	}
}

// anyChange answers a size, and blocks below it.
func anyChange(dice *rand.Rand) (int, []pack.Dirty) {
	size := dice.Intn(mostBytes + 1)
	var l []pack.Dirty
	for block := 0; block*64 < size; block++ {
		if dice.Intn(3) > 0 {
			l = append(l, dirty(block, anyBytes(dice)))
		}
	}
	return size, l
}

// anyBytes answers a block's bytes: few, many, with noughts at either end and between.
func anyBytes(dice *rand.Rand) string {
	b := []byte(data(dice.Intn(65), dice.Intn(255)))
	for range dice.Intn(4) {
		from := dice.Intn(len(b) + 1)
		clear(b[from : from+dice.Intn(len(b)-from+1)])
	}
	return string(b)
}

// Any arguments, most of them at an end or past it: held against the chapter told anew.
func TestAnyArguments(t *testing.T) {
	dice := rand.New(rand.NewSource(41))
	pick := func(l ...int) int { return l[dice.Intn(len(l))] }
	count := map[api.Errno]int{}
	for range 20000 {
		size, l := anyChange(dice)
		if dice.Intn(4) == 0 && len(l) > 0 {
			l[dice.Intn(len(l))].Block += pick(-1, 1, 2, -64, 64)
		}
		if dice.Intn(9) == 0 {
			l = append(l, dirty(pick(size/64, (size+63)/64, 63, 64), data(pick(0, 1, 64, 65), 1)))
		}
		if dice.Intn(9) == 0 {
			size = pick(-1, 0, 1, 64, 65, 4095, 4096, 4097)
		}
		first := stripe(pick(0, 1, 2, 3, 4), pick(0, 1, 1<<20), 1<<30-pick(0, 0, 0, 0, 1, 2, 3, 4))
		if dice.Intn(9) == 0 {
			first = stripe(pick(-1, 0, 4, 5), pick(-1, 0, 1<<20, 1<<20+1), pick(-1, 0, 1<<30, 1<<30+1))
		}
		a := asked{pick(2, 2, 2, 2, 2, 2, 3, 3, 3, 77, 77, 77, 128, 128, 128, 1, 129), size, first, pick(3, 3, 3, 3, 3, 3, 4, 4, 4, 5, 5, 6, 11, 12, 16, 16, 2, 17), l}
		count[isTold(t, "any", a)]++
	}
	for _, e := range []api.Errno{api.OK, api.ErrArg, api.ErrFull} {
		if count[e] < 500 {
			t.Errorf("%d of %v: too few to tell anything", count[e], e)
		}
	}
}

// What is given is neither changed nor kept; no two lists of what is answered share memory.
func TestWhatPackIsGiven(t *testing.T) {
	room := make([]pack.Dirty, 0, 70)
	bytes := make([][]byte, 70)
	for block := range 30 {
		bytes[block] = append([]byte(data(60, block)), "\x00\x00\x00\x00spare"...)
		room = append(room, pack.Dirty{Block: block, B: bytes[block][:64]})
	}
	spare := room[:cap(room)]
	spare[30] = dirty(99, "spare")
	a := asked{2, 4096, seven, 3, room}
	want := tell(a.model())
	l, deltas, _ := a.pack()
	again, deltasAgain, _ := a.pack()
	for block, b := range bytes[:30] {
		if string(b) != data(60, block)+noughts+"spare" || room[block].Block != block || &room[block].B[0] != &b[0] || len(room[block].B) != 64 {
			t.Fatalf("block %d is %v behind Pack", block, room[block])
		}
	}
	if fmt.Sprint(spare[30:]) != fmt.Sprint(append([]pack.Dirty{dirty(99, "spare")}, make([]pack.Dirty, 39)...)) {
		t.Fatalf("spare room is %v behind Pack", spare[30:])
	}
	for block := range room {
		spoil(bytes[block])
	}
	clear(spare)
	for i := range again {
		spoil(again[i].Data)
	}
	clear(again[:cap(again)])
	clear(deltasAgain[:cap(deltasAgain)])
	if got := tell(l, deltas, api.OK); got != want {
		t.Fatalf("behind writes into what was given and into another answer: %s, want %s", got, want)
	}
	apart(t, l)
}

// apart looks whether stripes' bytes share memory.
func apart(t *testing.T, l []pack.Full) {
	t.Helper()
	if len(l) < 3 {
		t.Fatalf("%d stripes: too few to tell anything", len(l))
	}
	var want []string
	for _, f := range l {
		want = append(want, string(f.Data))
	}
	for i := range l {
		spoil(l[i].Data)
		want[i] = strings.Repeat("!", len(want[i]))
		for k, f := range l {
			if string(f.Data) != want[k] {
				t.Errorf("behind a write into stripe %d: stripe %d is %q, want %q", i, k, f.Data, want[k])
			}
		}
	}
}
